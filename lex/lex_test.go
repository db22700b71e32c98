package lex_test

import (
	"crypto/sha256"
	"encoding/hex"
	"hash"
	"math"
	"math/big"
	"slices"
	"strconv"
	"strings"
	"sync"
	"testing"

	"custody/api"
	"custody/lex"
)

const (
	most   = 4000    // bytes in the longest text
	latest = 1 << 40 // the greatest value of a number
	day    = 86400
)

// extremes are indices that are far from every text.
var extremes = []int{math.MinInt, math.MinInt + 1, -1 << 32, math.MinInt32, -most, -2, -1, math.MaxInt32, 1 << 32, math.MaxInt - 1, math.MaxInt}

// gaps are what may stand between two tokens without being noticed.
var gaps = []string{" ", "\t", "\n", "  ", " \t\n", "#\n", "# 01 A - {\n", "##\n#->\n", "\n# \xff\x00\r\n\t"}

// result is what Tokens returns.
type result struct {
	l  []api.Token
	at int
	e  api.Errno
}

func tokens(text string) result {
	l, at, e := lex.Tokens(text)
	return result{l, at, e}
}

func (r result) equals(other result) bool {
	return slices.Equal(r.l, other.l) && r.at == other.at && r.e == other.e
}

// String returns the line that another implementation writes for a result.
func (r result) String() string {
	var parts []string
	for _, t := range r.l {
		parts = append(parts, strconv.Itoa(t.Kind)+":"+t.Text+":"+strconv.Itoa(t.N)+":"+strconv.Itoa(t.At))
	}
	return strings.Join(parts, " ") + "|" + strconv.Itoa(r.at) + "|" + strconv.Itoa(int(r.e)) + "\n"
}

func word(s string, at int) api.Token { return api.Token{Kind: api.TokenWord, Text: s, At: at} }
func sign(s string, at int) api.Token { return api.Token{Kind: api.TokenSign, Text: s, At: at} }
func number(s string, n, at int) api.Token {
	return api.Token{Kind: api.TokenNumber, Text: s, N: n, At: at}
}

// alnum tells whether all characters are letters or digits.
func alnum(s string) bool {
	return strings.Trim(s, "abcdefghijklmnopqrstuvwxyz0123456789") == ""
}

// letters tells whether all characters are letters.
func letters(s string) bool { return alnum(s) && !strings.ContainsAny(s, "0123456789") }

// digits tells whether all characters are digits.
func digits(s string) bool { return strings.Trim(s, "0123456789") == "" }

// isWord is the definition of words: what is between the hyphens is not empty, and begins with a letter in front.
func isWord(s string) bool {
	if s == "" || !letters(s[:1]) {
		return false
	}
	for part := range strings.SplitSeq(s, "-") {
		if part == "" || !alnum(part) {
			return false
		}
	}
	return true
}

// isNumber is the definition of numbers; before is one without its unit.
func isNumber(s string) (before string, seconds int64, ok bool) {
	before, seconds = s, 1
	for unit, n := range map[string]int64{"s": 1, "m": 60, "h": 3600, "d": day} {
		if strings.HasSuffix(s, unit) {
			before, seconds = s[:len(s)-1], n
		}
	}
	return before, seconds, before == "0" || before != "" && digits(before) && before[0] != '0'
}

// isSign is the definition of signs.
func isSign(s string) bool {
	return slices.Contains([]string{"{", "}", "(", ")", ";", ",", "=", "->"}, s)
}

// definedKind returns the kind of token that s is in front of a rest, or 0.
func definedKind(s, rest string) int {
	if isWord(s) {
		return api.TokenWord
	}
	if isSign(s) {
		return api.TokenSign
	}
	if _, _, ok := isNumber(s); ok && (rest == "" || !alnum(rest[:1])) {
		return api.TokenNumber
	}
	return 0
}

// longest returns the longest token at an index of a text, and its kind, by trying all parts of the text.
func longest(text string, at int) (string, int) {
	for end := len(text); end > at; end-- {
		if kind := definedKind(text[at:end], text[end:]); kind != 0 {
			return text[at:end], kind
		}
	}
	return "", 0
}

// valueOf returns the value of a number.
func valueOf(s string) *big.Int {
	before, seconds, _ := isNumber(s)
	n, _ := new(big.Int).SetString(before, 10)
	return n.Mul(n, big.NewInt(seconds))
}

// wanted is P11.1.
func wanted(text string) result {
	if len(text) > most {
		return result{e: api.ErrLimit}
	}
	var l []api.Token
	for at := 0; at < len(text); {
		if strings.ContainsAny(text[at:at+1], " \t\n") {
			at++
			continue
		}
		if text[at] == '#' {
			comment, _, _ := strings.Cut(text[at:], "\n")
			at += len(comment)
			continue
		}
		s, kind := longest(text, at)
		if kind == 0 {
			return result{at: at, e: api.ErrSyntax}
		}
		n := 0
		if kind == api.TokenNumber {
			value := valueOf(s)
			if value.Cmp(big.NewInt(latest)) > 0 {
				return result{at: at, e: api.ErrLimit}
			}
			n = int(value.Int64())
		}
		l = append(l, api.Token{Kind: kind, Text: s, N: n, At: at})
		at += len(s)
	}
	return result{l: l}
}

// spotted is P11.2.
func spotted(text string, at int) (int, int) {
	if at < 0 {
		at = 0
	}
	if at > len(text) {
		at = len(text)
	}
	line, column := 1, 1
	for _, c := range []byte(text[:at]) {
		column++
		if c == '\n' {
			line, column = line+1, 1
		}
	}
	return line, column
}

// isTokens checks P11.1 for a text, and P11.4 as far as it is about this text alone.
func isTokens(t *testing.T, text string) {
	t.Helper()
	got := tokens(text)
	if want := wanted(text); !got.equals(want) {
		t.Fatalf("P11.1: %.60q (%d bytes): %v, not %v", text, len(text), got, want)
	}
	if got.e != api.OK {
		return
	}
	for _, x := range got.l {
		if x.Text == "" || !strings.HasPrefix(text[x.At:], x.Text) {
			t.Fatalf("P11.4: %.60q: %v is not at its index", text, x)
		}
	}
	if joined := lex.Join(got.l); len(joined) <= most {
		isSame(t, got.l, joined)
	}
}

// isSame checks that a text has certain tokens, apart from their indices.
func isSame(t *testing.T, l []api.Token, text string) {
	t.Helper()
	if !same(l, text) {
		t.Fatalf("P11.4: %.60q: %v, not %v", text, tokens(text), l)
	}
}

// same tells whether a text has certain tokens, apart from their indices.
func same(l []api.Token, text string) bool {
	got := tokens(text)
	return got.e == api.OK && slices.EqualFunc(got.l, l, func(x, y api.Token) bool { x.At, y.At = 0, 0; return x == y })
}

// texts calls a function with all texts of at most n characters of an alphabet, shorter ones first.
func texts(alphabet string, n int, f func(text string)) {
	for size := range n + 1 {
		part := make([]byte, size)
		var fill func(i int)
		fill = func(i int) {
			if i == size {
				f(string(part))
				return
			}
			for _, c := range []byte(alphabet) {
				part[i] = c
				fill(i + 1)
			}
		}
		fill(0)
	}
}

// isDigest checks the hash of many lines.
func isDigest(t *testing.T, name string, h hash.Hash, want string) {
	t.Helper()
	if got := hex.EncodeToString(h.Sum(nil)); got != want {
		t.Errorf("P11.1: %s: the results have the hash %s, not %s", name, got, want)
	}
}

func TestExamples(t *testing.T) {
	for _, x := range []struct {
		text string
		want result
	}{
		{"type a-1{life 2h;}#x", result{l: []api.Token{word("type", 0), word("a-1", 5), sign("{", 8), word("life", 9), number("2h", 7200, 14), sign(";", 16), sign("}", 17)}}},
		{"a->b", result{l: []api.Token{word("a", 0), sign("->", 1), word("b", 3)}}},
		{"a- b", result{at: 1, e: api.ErrSyntax}},
		{"a 01", result{at: 2, e: api.ErrSyntax}},
		{"a 1x", result{at: 2, e: api.ErrSyntax}},
		{"A", result{at: 0, e: api.ErrSyntax}},
		{"1099511627776", result{l: []api.Token{number("1099511627776", 1<<40, 0)}}},
		{"1099511627777", result{at: 0, e: api.ErrLimit}},
		{"12725830d", result{at: 0, e: api.ErrLimit}},
		{"01", result{at: 0, e: api.ErrSyntax}},
		{"1x", result{at: 0, e: api.ErrSyntax}},
		{"1sd", result{at: 0, e: api.ErrSyntax}},
		{"1-", result{at: 1, e: api.ErrSyntax}},
		{"{-", result{at: 1, e: api.ErrSyntax}},
		{"a-", result{at: 1, e: api.ErrSyntax}},
		{"a->", result{l: []api.Token{word("a", 0), sign("->", 1)}}},
	} {
		if got := tokens(x.text); !got.equals(x.want) {
			t.Errorf("P11.1: %q: %v, not %v", x.text, got, x.want)
		}
	}
	if line, column := lex.Spot("a\nbc", 3); line != 2 || column != 2 {
		t.Errorf("P11.2: line %d, column %d", line, column)
	}
}

// TestKnown compares with the results of another implementation, which uses regular expressions.
func TestKnown(t *testing.T) {
	for text, want := range map[string]string{
		"policy bank { type master { generate; protected; } quorum destroy 2 after 1h within 1d; }": "1:policy:0:0 1:bank:0:7 3:{:0:12 1:type:0:14 1:master:0:19 3:{:0:26 1:generate:0:28 3:;:0:36 1:protected:0:38 3:;:0:47 3:}:0:49 1:quorum:0:51 1:destroy:0:58 2:2:2:66 1:after:0:68 2:1h:3600:74 1:within:0:77 2:1d:86400:84 3:;:0:86 3:}:0:88|0|0",
		"wrap master->data;unwrap master->raw-1-x;":                                                 "1:wrap:0:0 1:master:0:5 3:->:0:11 1:data:0:13 3:;:0:17 1:unwrap:0:18 1:master:0:25 3:->:0:31 1:raw-1-x:0:33 3:;:0:40|0|0",
		"a1-b2-3->c4--":          "|11|3",
		"1s->2m->3h->4d->05":     "|16|3",
		"0 0s 0m 0h 0d 10s 100d": "2:0:0:0 2:0s:0:2 2:0m:0:5 2:0h:0:8 2:0d:0:11 2:10s:10:14 2:100d:8640000:18|0|0",
		"x-1-y#->z\n-> ->\t->":   "1:x-1-y:0:0 3:->:0:10 3:->:0:13 3:->:0:16|0|0",
		"7d12h":                  "|0|3",
		"a#\xc3\xa9\r\x00\nb":    "1:a:0:0 1:b:0:7|0|0",
		"3=4,(5)":                "2:3:3:0 3:=:0:1 2:4:4:2 3:,:0:3 3:(:0:4 2:5:5:5 3:):0:6|0|0",
		"1->2-3":                 "|4|3",
		"9 1099511627777x":       "|2|3",
		"9 1099511627777 x":      "|2|2",
		"9 A 1099511627777":      "|2|3",
		"s1 m2 h3 d4 1 s":        "1:s1:0:0 1:m2:0:3 1:h3:0:6 1:d4:0:9 2:1:1:12 1:s:0:14|0|0",
		"type#":                  "1:type:0:0|0|0",
		"{}();,=->":              "3:{:0:0 3:}:0:1 3:(:0:2 3:):0:3 3:;:0:4 3:,:0:5 3:=:0:6 3:->:0:7|0|0",
		">":                      "|0|3",
	} {
		if got := tokens(text).String(); got != want+"\n" {
			t.Errorf("P11.1: %q: %q, not %q", text, got, want)
		}
	}
	for _, x := range []struct {
		alphabet string
		n        int
		want     string
	}{
		{"amz05->{# \n", 4, "7567f5133f2ee873cbc9d42e5235b8ca65b0d22f7ad93bd11c000ca1d8da7dd3"},
		{"as1-> ", 5, "eaa5c3eb63b252053d2b0627d1b07646c66d538ec04757ef0ce271eb6b4acbf9"},
	} {
		h := sha256.New()
		texts(x.alphabet, x.n, func(text string) { h.Write([]byte(tokens(text).String())) })
		isDigest(t, "all texts of "+strconv.Quote(x.alphabet), h, x.want)
	}
}

// TestKnownNumbers compares numbers near the limit, and such that would be small if they wrapped around, with another implementation's.
func TestKnownNumbers(t *testing.T) {
	for _, x := range []struct {
		unit    string
		seconds uint64
		want    string
	}{
		{"", 1, "101f4ff8c9b67eb3c8cbb79339cf9a378548137ca8fbdaa6ac8d72f1ae2760f4"},
		{"s", 1, "bedd53f3b119a67c7e759673e473befb9125e4a004856950940cbdc34933daa8"},
		{"m", 60, "9e9da73ab8abd8c00241b08ce9c068647db9c170f49e8e3fd7a932c71bb20d96"},
		{"h", 3600, "d7bee5311fab430f15969a7d3e5c900fce49ca54e0bda0cdcf7eaae384612d3c"},
		{"d", day, "4120e868ecdccaf93a7036b48a926bd62cf2edafad497dffe2fd6a3a19008238"},
	} {
		h := sha256.New()
		write := func(from *big.Int, count int) {
			for i := range count {
				n := new(big.Int).Add(from, big.NewInt(int64(i)))
				h.Write([]byte(tokens(n.String() + x.unit).String()))
			}
		}
		write(new(big.Int).SetUint64(latest/x.seconds-50), 100)
		for _, bits := range []uint{63, 64} {
			n := new(big.Int).Lsh(big.NewInt(1), bits)
			n.Div(n, new(big.Int).SetUint64(x.seconds))
			write(n.Sub(n, big.NewInt(3)), 7)
		}
		last, _ := new(big.Int).SetString("1000000000000000000000000000007", 10)
		write(last, 1)
		isDigest(t, "numbers with the unit "+x.unit, h, x.want)
	}
}

// TestKnownTexts compares the results for generated texts with another implementation's.
func TestKnownTexts(t *testing.T) {
	pieces := []string{"a", "b-1", "->", "-", "{", ";", "0", "12", "7d", "s", "1099511627776", "12725829d", "18446744073709551617", "=", " ", " ", "\n", "\t", "# x\n", "#", "A", "\xc3\xa9"}
	state := uint64(1)
	below := func(n int) int {
		state = state*6364136223846793005 + 1442695040888963407
		return int(state >> 33 % uint64(n))
	}
	h := sha256.New()
	for range 20000 {
		text := ""
		for range below(12) {
			text += pieces[below(len(pieces))]
			text += strings.Repeat(" ", below(2))
		}
		isTokens(t, text)
		h.Write([]byte(tokens(text).String()))
	}
	isDigest(t, "generated texts", h, "0839bd2cc13a6ac359d3480aef1617c14d455a400310e684cfbc6091de69eaf0")
}

// TestShort checks all short texts over several alphabets.
func TestShort(t *testing.T) {
	for alphabet, n := range map[string]int{
		"":                              0,
		"as10-># \n":                    5,
		"-1a>":                          8,
		"0s9 d":                         7,
		"#\n\t -a":                      6,
		"{}();,=->":                     4,
		"abyzABYZ":                      3,
		"smhdnlgrte0123456789`{/:@[":    3,
		"\x00\x08\x0b\x0c\r\x1f!a1\xff": 4,
	} {
		if testing.Short() {
			n = min(n, 4)
		}
		texts(alphabet, n, func(text string) { isTokens(t, text) })
	}
}

// TestBytes checks each byte, and each pair of bytes, in all kinds of places.
func TestBytes(t *testing.T) {
	places := [][2]string{{"", ""}, {"a", ""}, {"a", "b"}, {"a-", ""}, {"a-", "1"}, {"a", "-b"}, {"a1", ">"}, {"1", ""}, {"1", "1"}, {"0", ""}, {"7s", ""}, {"7s", "s"}, {"-", ""}, {"", ">"}, {"a-", ">"}, {"{", "}"}, {"->", "->"}, {" ", " "}, {"#", ""}, {"#", "\nA"}, {"# ", "#\n01"}, {"\n", "x"}, {"", "1"}, {"", "a"}, {"1", "a"}, {"", "#"}, {"", "-"}}
	for c := range 256 {
		for _, x := range places {
			isTokens(t, x[0]+string([]byte{byte(c)})+x[1])
		}
		for d := range 256 {
			isTokens(t, string([]byte{byte(c), byte(d)}))
			isTokens(t, "9"+string([]byte{byte(c), byte(d)}))
		}
	}
}

// TestAllowed checks without the reference which bytes may stand where.
func TestAllowed(t *testing.T) {
	for c := range 256 {
		s := string([]byte{byte(c)})
		letter, digit := c >= 'a' && c <= 'z', c >= '0' && c <= '9'
		var want result
		switch {
		case letter:
			want.l = []api.Token{word(s, 0)}
		case digit:
			want.l = []api.Token{number(s, c-'0', 0)}
		case strings.Contains("{}();,=", s):
			want.l = []api.Token{sign(s, 0)}
		case c != ' ' && c != 9 && c != 10 && c != '#':
			want.e = api.ErrSyntax
		}
		if got := tokens(s); !got.equals(want) {
			t.Errorf("P11.1: the byte %d: %v, not %v", c, got, want)
		}
		if got := tokens("a" + s); (got.e == api.OK && len(got.l) == 1 && len(got.l[0].Text) == 2) != (letter || digit) {
			t.Errorf("P11.1: a and the byte %d: %v", c, got)
		}
		if got := tokens("1" + s); (got.e == api.OK && len(got.l) == 1 && len(got.l[0].Text) == 2) != (digit || strings.Contains("smhd", s)) {
			t.Errorf("P11.1: 1 and the byte %d: %v", c, got)
		}
		if got := tokens("#" + s + "\n"); !got.equals(result{}) {
			t.Errorf("P11.1: a comment with the byte %d: %v", c, got)
		}
	}
}

func TestNumbers(t *testing.T) {
	for n := range 20000 {
		for unit, seconds := range map[string]int{"": 1, "s": 1, "m": 60, "h": 3600, "d": day} {
			s := strconv.Itoa(n) + unit
			if got := tokens(s); !got.equals(result{l: []api.Token{number(s, n*seconds, 0)}}) {
				t.Fatalf("P11.1: %s: %v", s, got)
			}
		}
	}
	for unit, seconds := range map[string]int{"": 1, "s": 1, "m": 60, "h": 3600, "d": day} {
		greatest := latest / seconds
		for n := greatest - 200; n <= greatest+200; n++ {
			s := strconv.Itoa(n) + unit
			want := result{l: []api.Token{number(s, n*seconds, 0)}}
			if n > greatest {
				want = result{e: api.ErrLimit}
			}
			if got := tokens(s); !got.equals(want) {
				t.Fatalf("P11.1: %s: %v, not %v", s, got, want)
			}
		}
	}
}

// TestLarge checks that no number overflows, whatever its size.
func TestLarge(t *testing.T) {
	for _, unit := range []string{"", "s", "m", "h", "d"} {
		for size := 14; size <= most-4; size = size*5/4 + 1 {
			for _, s := range []string{"1" + strings.Repeat("0", size-1), strings.Repeat("9", size), strings.Repeat("18446744073709551616", size)[:size]} {
				isResult(t, s+unit, result{e: api.ErrLimit})
				isResult(t, "a "+s+unit, result{at: 2, e: api.ErrLimit})
				isResult(t, "a "+s+unit+"x", result{at: 2, e: api.ErrSyntax})
			}
		}
		_, seconds, _ := isNumber("1" + unit)
		for bits := uint(40); bits <= 200; bits++ {
			n := new(big.Int).Lsh(big.NewInt(1), bits)
			n.Div(n, big.NewInt(seconds))
			for d := int64(-2); d <= 2; d++ {
				isTokens(t, new(big.Int).Add(n, big.NewInt(d)).String()+unit)
			}
		}
	}
}

// TestNoNumber checks that a number has no zeros in front, and is not followed by letters or digits, whatever its value.
func TestNoNumber(t *testing.T) {
	for _, s := range []string{"00", "01", "09", "00s", "01s", "000", "0000000000000000000", "01099511627777", "0x1", "0ss", "0s0", "0a", "1a", "1b2", "1sd", "1ds", "1s1", "1d0", "7d12h", "1z", "1e9", "12t", "1099511627777x", "99999999999999999999sd", "01-", "1x->", "1mm"} {
		for _, before := range []string{"", " ", "a ", "a 1 ", "{", "->", "#\n"} {
			if got := tokens(before + s); !got.equals(result{at: len(before), e: api.ErrSyntax}) {
				t.Errorf("P11.1: %q: %v", before+s, got)
			}
		}
	}
	for _, s := range []string{"0", "0s", "1", "10", "100d"} {
		for _, after := range []string{"", " ", "\t", "\n", "#", ";", "{", "=", "->", " s", "->a", "#s"} {
			if got := tokens(s + after); got.e != api.OK || got.l[0].Text != s || got.l[0].Kind != api.TokenNumber {
				t.Errorf("P11.1: %q: %v", s+after, got)
			}
		}
	}
}

// TestFirst checks that of several errors the one with the smallest index counts.
func TestFirst(t *testing.T) {
	errors := map[string]api.Errno{"A": api.ErrSyntax, "-": api.ErrSyntax, "01": api.ErrSyntax, "1x": api.ErrSyntax, "1099511627777x": api.ErrSyntax, "1099511627777": api.ErrLimit, "99999999999d": api.ErrLimit, "\r": api.ErrSyntax, "\xff": api.ErrSyntax}
	for first, e := range errors {
		for second := range errors {
			for _, before := range []string{"", "a ", "7 ", "{->", "# A\n"} {
				text := before + first + " " + second
				if got := tokens(text); !got.equals(result{at: len(before), e: e}) {
					t.Errorf("P11.1: %q: %v", text, got)
				}
			}
		}
	}
}

func TestLimit(t *testing.T) {
	for _, size := range []int{0, 1, 2, most - 1, most} {
		for _, blank := range []string{" ", "\t", "\n", "#"} {
			isResult(t, strings.Repeat(blank, size), result{})
		}
		var signs result
		for i := range size {
			signs.l = append(signs.l, sign("{", i))
		}
		isResult(t, strings.Repeat("{", size), signs)
		if size > 0 {
			long := strings.Repeat("a", size)
			isResult(t, long, result{l: []api.Token{word(long, 0)}})
		}
	}
	for _, piece := range []string{" ", "a", "9", "{", "-", "a-", "->", "#", "\n", "A", "1x", "a ", "1 ", "\xff", "1099511627777 "} {
		for _, size := range []int{most + 1, most + 2, 2 * most, 1 << 16, 1 << 20} {
			isResult(t, strings.Repeat(piece, size)[:size], result{e: api.ErrLimit})
		}
	}
	for _, x := range []struct {
		end string
		e   api.Errno
	}{{"A", api.ErrSyntax}, {"-", api.ErrSyntax}, {"00", api.ErrSyntax}, {"1x", api.ErrSyntax}, {"1099511627777", api.ErrLimit}} {
		at := most - len(x.end)
		isResult(t, strings.Repeat(" ", at)+x.end, result{at: at, e: x.e})
		isResult(t, strings.Repeat(" ", at+1)+x.end, result{e: api.ErrLimit})
	}
}

// isResult checks what a text gives.
func isResult(t *testing.T, text string, want result) {
	t.Helper()
	if got := tokens(text); !got.equals(want) {
		t.Errorf("P11.1: %.20q (%d bytes): index %d, %d, %d tokens", text, len(text), got.at, got.e, len(got.l))
	}
}

func TestSpot(t *testing.T) {
	isSpot := func(text string, at int) {
		t.Helper()
		line, column := lex.Spot(text, at)
		if l, c := spotted(text, at); line != l || column != c {
			t.Fatalf("P11.2: %.20q at %d: %d, %d, not %d, %d", text, at, line, column, l, c)
		}
	}
	texts("a\n\t", 7, func(text string) {
		for at := -2; at <= len(text)+2; at++ {
			isSpot(text, at)
		}
	})
	for _, text := range []string{"", "\n", "a", "\r\n\r\n", "\xc3\xa9\n\xff", "\x00\n\x00", strings.Repeat("\n", 2*most), strings.Repeat("a", 2*most), strings.Repeat("a\nbc\n", most)} {
		for _, at := range append([]int{0, 1, 2, 3, 4, len(text) - 1, len(text), len(text) + 1}, extremes...) {
			isSpot(text, at)
		}
	}
	for _, x := range []struct {
		text             string
		at, line, column int
	}{
		{"", 0, 1, 1}, {"", -1, 1, 1}, {"", 1, 1, 1},
		{"ab", 0, 1, 1}, {"ab", 1, 1, 2}, {"ab", 2, 1, 3}, {"ab", 3, 1, 3}, {"ab", math.MaxInt, 1, 3}, {"ab", math.MinInt, 1, 1},
		{"\n", 0, 1, 1}, {"\n", 1, 2, 1}, {"\n", 2, 2, 1}, {"\n\n", 1, 2, 1}, {"\n\n", 2, 3, 1},
		{"a\nb", 1, 1, 2}, {"a\nb", 2, 2, 1}, {"a\nb", 3, 2, 2}, {"a\r\nb", 2, 1, 3}, {"\xc3\xa9b", 2, 1, 3},
	} {
		if line, column := lex.Spot(x.text, x.at); line != x.line || column != x.column {
			t.Errorf("P11.2: %q at %d: %d, %d, not %d, %d", x.text, x.at, line, column, x.line, x.column)
		}
	}
}

func TestJoin(t *testing.T) {
	for _, l := range [][]string{{}, {""}, {"", ""}, {"", "a", ""}, {"a"}, {"a", "b"}, {"type", "a-1", "{"}, {" ", "\n", "#"}, {"\xff", "\x00"}, {"A b", "01"}, {strings.Repeat("a", 2*most), "b"}, slices.Repeat([]string{"->"}, most)} {
		var tokens []api.Token
		want := ""
		for i, s := range l {
			tokens = append(tokens, api.Token{Kind: i - 1, Text: s, N: extremes[i%len(extremes)], At: -i})
			if i > 0 {
				want += " "
			}
			want += s
		}
		before := slices.Clone(tokens)
		if got := lex.Join(tokens); got != want {
			t.Errorf("P11.3: %.20q: %.20q, not %.20q", l, got, want)
		}
		if !slices.Equal(tokens, before) {
			t.Errorf("Join changed %v", before)
		}
	}
	if got := lex.Join(nil); got != "" {
		t.Errorf("P11.3: %q", got)
	}
}

// samples are texts that have tokens.
var samples = []string{
	"type a-1{life 2h;}#x",
	"policy bank { type master { generate; protected; } type data { generate; encrypt; decrypt; } wrap master -> data; unwrap master -> data; quorum destroy 2 after 1h within 1d; }",
	"a->b->c-d->1->2s->{}();,=",
	"a1 1 b-2-c 0 0s # x\n-> (\t)",
	"1099511627776 12725829d 0d",
}

// TestJoined is P11.4 for joined tokens.
func TestJoined(t *testing.T) {
	for _, text := range samples {
		got := tokens(text)
		if got.e != api.OK || len(got.l) == 0 {
			t.Fatalf("P11.1: %q: %v", text, got)
		}
		isTokens(t, text)
		joined := lex.Join(got.l)
		isSame(t, got.l, joined)
		if again := lex.Join(tokens(joined).l); again != joined {
			t.Errorf("P11.4: %q is joined to %q", joined, again)
		}
	}
	for n, fits := range map[int]bool{1: true, 2: true, 2000: true, 2001: false, most: false} {
		l := tokens(strings.Repeat("{", n)).l
		if got := tokens(lex.Join(l)); len(l) != n || fits != (got.e == api.OK) || fits && len(got.l) != n || !fits && !got.equals(result{e: api.ErrLimit}) {
			t.Errorf("P11.4: %d signs: %d", n, got.e)
		}
	}
}

// TestGaps is P11.4 for what is inserted between two tokens, or around all of them.
func TestGaps(t *testing.T) {
	for _, text := range samples {
		l := tokens(text).l
		for i, x := range l {
			for _, gap := range gaps {
				before, after := text[:x.At]+gap+text[x.At:], text[:x.At+len(x.Text)]+gap+text[x.At+len(x.Text):]
				isSame(t, l, before)
				isSame(t, l, after)
				for j, y := range tokens(before).l {
					if moved := y.At - l[j].At; moved != 0 && j < i || moved != len(gap) && j >= i {
						t.Fatalf("P11.4: %q: the token %d is at %d", before, j, y.At)
					}
				}
			}
		}
		isSame(t, l, text+"\n#")
	}
}

// TestNew checks that what a caller does with a result changes nothing.
func TestNew(t *testing.T) {
	text := samples[0]
	first, second := tokens(text), tokens(text)
	for i := range first.l {
		first.l[i] = api.Token{}
	}
	_ = append(first.l[:1], api.Token{Text: "b"})
	if want := wanted(text); !second.equals(want) || !tokens(text).equals(want) {
		t.Error("results share memory")
	}
}

// TestNoState checks that calls at the same time do not disturb each other.
func TestNoState(t *testing.T) {
	var group sync.WaitGroup
	for i := range 8 {
		group.Go(func() {
			text := samples[i%len(samples)]
			want := wanted(text)
			for range 200 {
				if got := tokens(text); !got.equals(want) {
					t.Errorf("P11.1: %q: %v, not %v", text, got, want)
				}
				line, column := lex.Spot(text+"\n", len(text)+1)
				if l, c := spotted(text+"\n", len(text)+1); line != l || column != c {
					t.Errorf("P11.2: %q: %d, %d", text, line, column)
				}
				if !same(want.l, lex.Join(want.l)) {
					t.Errorf("P11.4: %q", text)
				}
			}
		})
	}
	group.Wait()
}

func FuzzLex(f *testing.F) {
	for i, text := range samples {
		f.Add(text, i)
	}
	for _, text := range []string{"", "a- b", "a 01", "1x", "1099511627777", "12725830d", "a\nbc", "#\xff\n\r"} {
		f.Add(text, len(text))
	}
	f.Fuzz(func(t *testing.T, text string, at int) {
		if len(text) > 300 { // the reference is slow
			text = text[:300]
		}
		isTokens(t, text)
		line, column := lex.Spot(text, at)
		if l, c := spotted(text, at); line != l || column != c {
			t.Fatalf("P11.2: %q at %d: %d, %d, not %d, %d", text, at, line, column, l, c)
		}
		if l := tokens(text).l; len(l) > 0 {
			x := l[uint(at)%uint(len(l))]
			isSame(t, l, text[:x.At]+gaps[uint(at)%uint(len(gaps))]+text[x.At:])
		}
	})
}
