package parse_test

import (
	"fmt"
	"math"
	"math/rand/v2"
	"regexp"
	"runtime"
	"slices"
	"sort"
	"strconv"
	"strings"
	"sync"
	"testing"

	"custody/api"
	"custody/lex"
	"custody/parse"
)

const (
	most   = 4000    // bytes in the longest text
	latest = 1 << 40 // the greatest number
)

// The words of the document, in its order.
var (
	commandWords = strings.Split("generate, import, export, encrypt, decrypt, mac, wrap, unwrap, raw-wrap, raw-unwrap, derive, destroy, rotate, backup, restore, renew, replace, split, merge, unlock, rekey, decommission, propose, approve, withdraw, head, piece", ", ")
	flagWords    = []string{"generate", "import", "export", "encrypt", "decrypt", "mac", "protected"}
	flagValues   = []int{1, 2, 4, 8, 16, 32, 64}
	ruleWords    = []string{"wrap", "unwrap", "raw-wrap", "raw-unwrap", "derive"}
	otherWords   = []string{"policy", "type", "life", "quorum", "after", "within", "uses"}
	signs        = []string{"{", "}", "(", ")", ";", ",", "=", "->"}
)

// The grammar of the document as regular expressions for texts in which each token is followed by a blank.
var (
	nameExpr    = `[a-z][a-z0-9]*(?:-[a-z0-9]+)* `
	numberExpr  = `(?:0|[1-9][0-9]*)[smhd]? `
	typeExpr    = `type ` + nameExpr + `\{ (?:(?:` + strings.Join(flagWords, "|") + `) ; |life ` + numberExpr + `; )*\} `
	ruleExpr    = `(?:` + strings.Join(ruleWords, "|") + `) ` + nameExpr + `-> ` + nameExpr + `; `
	quorumExpr  = `quorum (?:` + strings.Join(commandWords, "|") + `) ` + numberExpr + `(?:after ` + numberExpr + `)?within ` + numberExpr + `(?:uses ` + numberExpr + `)?; `
	policyText  = regexp.MustCompile(`^policy ` + nameExpr + `\{ (?:` + typeExpr + `|` + ruleExpr + `|` + quorumExpr + `)*\} $`)
	typeText    = regexp.MustCompile(`\b` + typeExpr)
	itemText    = regexp.MustCompile(`^(?:` + typeExpr + `|` + ruleExpr + `|` + quorumExpr + `)`)
	completions = []string{"", "policy a { } ", "a { } ", "{ } ", "} ", "a { } } ", "{ } } ", "} } ", "; } } ", "0 ; } } ", "a -> a ; } ", "-> a ; } ", "a ; } ", "; } ", "mac 0 within 0 ; } ", "0 within 0 ; } ", "within 0 ; } ", "0 ; } "}
)

// result is what Parse returns.
type result struct {
	p  api.Policy
	at int
	e  api.Errno
}

func parsed(text string) result {
	p, at, e := parse.Parse(text)
	return result{p, at, e}
}

func (r result) equals(other result) bool {
	return same(r.p, other.p) && r.at == other.at && r.e == other.e
}

// same tells whether policies are equal.
func same(p, q api.Policy) bool {
	return p.Name == q.Name && slices.Equal(p.Types, q.Types) && slices.Equal(p.Rules, q.Rules) && slices.Equal(p.Quorums, q.Quorums)
}

// spaced returns tokens, each followed by a blank.
func spaced(l []api.Token) string {
	text := ""
	for _, t := range l {
		text += t.Text + " "
	}
	return text
}

// isPolicy tells whether a text is one of the grammar.
func isPolicy(text string) bool {
	if !policyText.MatchString(text) {
		return false
	}
	for _, t := range typeText.FindAllString(text, -1) {
		_, inside, _ := strings.Cut(t, "{")
		words := map[string]int{}
		for word := range strings.FieldsSeq(inside) {
			words[word]++
		}
		if words["life"] > 1 {
			return false
		}
		for _, word := range flagWords {
			if words[word] > 1 {
				return false
			}
		}
	}
	return true
}

// isBeginning tells whether a text is the beginning of one of the grammar.
func isBeginning(text string) bool {
	return slices.ContainsFunc(completions, func(rest string) bool { return isPolicy(text + rest) })
}

// wanted is P12.2.
func wanted(text string) result {
	l, at, e := lex.Tokens(text)
	if e != api.OK {
		return result{at: at, e: e}
	}
	if !isPolicy(spaced(l)) {
		n := sort.Search(len(l), func(i int) bool { return !isBeginning(spaced(l[:i+1])) })
		if n == len(l) {
			return result{at: len(text), e: api.ErrSyntax}
		}
		return result{at: l[n].At, e: api.ErrSyntax}
	}
	return meaning(l)
}

// itemsOf returns the tokens of each item of a policy.
func itemsOf(l []api.Token) [][]api.Token {
	var items [][]api.Token
	for l = l[3:]; len(l) > 1; {
		n := strings.Count(itemText.FindString(spaced(l)), " ")
		items = append(items, l[:n])
		l = l[n:]
	}
	return items
}

// meaning returns what the tokens of a text of the grammar stand for.
func meaning(l []api.Token) result {
	p := api.Policy{Name: l[1].Text}
	items := itemsOf(l)
	types := map[string]int{}
	for _, item := range items {
		if item[0].Text == "type" {
			if _, ok := types[item[1].Text]; !ok {
				types[item[1].Text] = len(p.Types)
			}
			p.Types = append(p.Types, typeOf(item))
		}
	}
	earlier := map[string]bool{}
	for _, item := range items {
		kind := 1 + slices.Index(ruleWords, item[0].Text)
		switch {
		case item[0].Text == "type":
			if earlier[item[1].Text] {
				return result{at: item[1].At, e: api.ErrName}
			}
			earlier[item[1].Text] = true
		case item[0].Text == "quorum":
			p.Quorums = append(p.Quorums, quorumOf(item))
		default:
			for _, name := range []api.Token{item[1], item[3]} {
				if _, ok := types[name.Text]; !ok {
					return result{at: name.At, e: api.ErrName}
				}
			}
			p.Rules = append(p.Rules, api.Rule{Kind: kind, A: types[item[1].Text], B: types[item[3].Text]})
		}
	}
	return result{p: p}
}

func typeOf(item []api.Token) api.Type {
	t := api.Type{Name: item[1].Text}
	for i, x := range item[3:] {
		if x.Text == "life" {
			t.Life = item[3+i+1].N
		}
		if n := slices.Index(flagWords, x.Text); n >= 0 {
			t.Flags += flagValues[n]
		}
	}
	return t
}

func quorumOf(item []api.Token) api.Quorum {
	q := api.Quorum{Command: 1 + slices.Index(commandWords, item[1].Text), Count: item[2].N, Uses: 1}
	for i, x := range item[2:] {
		switch x.Text {
		case "after":
			q.Delay = item[2+i+1].N
		case "within":
			q.Valid = item[2+i+1].N
		case "uses":
			q.Uses = item[2+i+1].N
		}
	}
	return q
}

// printed is the text of P12.3.
func printed(p api.Policy) string {
	text := "policy " + p.Name + " {\n"
	for _, t := range p.Types {
		flags := ""
		for i, word := range flagWords {
			if t.Flags&flagValues[i] != 0 {
				flags += word + "; "
			}
		}
		if t.Life != 0 {
			flags += fmt.Sprintf("life %d; ", t.Life)
		}
		text += fmt.Sprintf("\ttype %s { %s}\n", t.Name, flags)
	}
	for _, r := range p.Rules {
		text += fmt.Sprintf("\t%s %s -> %s;\n", ruleWords[r.Kind-1], p.Types[r.A].Name, p.Types[r.B].Name)
	}
	for _, q := range p.Quorums {
		line := fmt.Sprintf("\tquorum %s %d after %d within %d uses %d;\n", commandWords[q.Command-1], q.Count, q.Delay, q.Valid, q.Uses)
		line = strings.Replace(line, " after 0 ", " ", 1)
		text += strings.Replace(line, " uses 1;", ";", 1)
	}
	return text + "}\n"
}

// isParsed checks P12.2 for a text.
func isParsed(t *testing.T, text string) {
	t.Helper()
	if got, want := parsed(text), wanted(text); !got.equals(want) {
		t.Fatalf("P12.2: %.300q: %v, not %v", text, got, want)
	}
}

// isResult checks what a text gives.
func isResult(t *testing.T, text string, want result) {
	t.Helper()
	if got := parsed(text); !got.equals(want) {
		t.Errorf("P12.2: %.200q (%d bytes): %v, not %v", text, len(text), got, want)
	}
}

// isPrinted checks P12.3 and P12.4 for a policy that has a text.
func isPrinted(t *testing.T, p api.Policy) {
	t.Helper()
	got, e := parse.Print(p)
	want := printed(p)
	if len(want) > most {
		if got != "" || e != api.ErrLimit {
			t.Fatalf("P12.3: %.60q: %.60q, %d", want, got, e)
		}
		return
	}
	if got != want || e != api.OK {
		t.Fatalf("P12.3: %.300q, %d, not %.300q", got, e, want)
	}
	if again := parsed(got); !again.equals(result{p: p}) {
		t.Fatalf("P12.4: %.300q: %v, not %v", got, again, p)
	}
}

// isRefused checks that a policy has no text.
func isRefused(t *testing.T, p api.Policy, want api.Errno) {
	t.Helper()
	if got, e := parse.Print(p); got != "" || e != want {
		t.Errorf("P12.3: %.200v: %.60q, %d, not %d", p, got, e, want)
	}
}

// full returns a policy with items of all sorts.
func full() api.Policy {
	return api.Policy{
		Name:    "bank",
		Types:   []api.Type{{Name: "master", Flags: 65, Life: 2592000}, {Name: "kek-1", Flags: 6}, {Name: "data"}, {Name: "life", Flags: 127, Life: 1}},
		Rules:   []api.Rule{{Kind: 1, A: 0, B: 1}, {Kind: 5, A: 3, B: 2}, {Kind: 3, A: 2, B: 2}, {Kind: 1, A: 0, B: 1}},
		Quorums: []api.Quorum{{Command: 3, Count: 2, Delay: 60, Valid: 3600, Uses: 5}, {Command: 27, Count: 1, Uses: 1}, {Command: 27, Valid: latest, Delay: 1}},
	}
}

const bank = "policy bank { type master { generate; protected; } type data { generate; encrypt; decrypt; } wrap master -> data; unwrap master -> data; quorum destroy 2 after 1h within 1d; }"

// samples are texts of policies.
var samples = []string{
	bank,
	"policy p { type a { export; life 2m; } wrap a -> a; quorum export 2 within 1h; }",
	"policy policy{wrap type->wrap;type type{life 0;mac;}type wrap{protected;life 1d;generate;import;}quorum raw-unwrap 0 after 0 within 0 uses 0;derive wrap->type;}",
	"policy p-1 { quorum piece 16 after 1 within 2 uses 3; quorum head 1 within 1s uses 1; raw-unwrap x-1 -> y; type y { } type x-1 { encrypt; } } # end",
	"policy a { }",
}

func TestExamples(t *testing.T) {
	isResult(t, "policy p { type a { export; life 2m; } wrap a -> a; quorum export 2 within 1h; }", result{p: api.Policy{Name: "p", Types: []api.Type{{Name: "a", Flags: 4, Life: 120}}, Rules: []api.Rule{{Kind: 1}}, Quorums: []api.Quorum{{Command: 3, Count: 2, Valid: 3600, Uses: 1}}}})
	isResult(t, "policy p { wrap a -> b; type a { } }", result{at: 21, e: api.ErrName})
	isResult(t, "policy p { type a { export; export; } }", result{at: 28, e: api.ErrSyntax})
	isResult(t, "policy p {", result{at: 10, e: api.ErrSyntax})
	isResult(t, bank, result{p: api.Policy{
		Name:    "bank",
		Types:   []api.Type{{Name: "master", Flags: api.Generate | api.Protected}, {Name: "data", Flags: api.Generate | api.Encrypt | api.Decrypt}},
		Rules:   []api.Rule{{Kind: api.Wrap, A: 0, B: 1}, {Kind: api.Unwrap, A: 0, B: 1}},
		Quorums: []api.Quorum{{Command: api.CmdDestroy, Count: 2, Delay: 3600, Valid: 86400, Uses: 1}},
	}})
	if a, b, c := parse.Word(9), parse.Command("piece"), parse.Command("life"); a != "raw-wrap" || b != 27 || c != 0 {
		t.Errorf("P12.1: %q, %d, %d", a, b, c)
	}
}

func TestWords(t *testing.T) {
	for i, word := range commandWords {
		if got := parse.Word(i + 1); got != word {
			t.Errorf("P12.1: Word(%d) is %q", i+1, got)
		}
		if got := parse.Command(word); got != i+1 {
			t.Errorf("P12.1: Command(%q) is %d", word, got)
		}
		for _, other := range []string{word[1:], word[:len(word)-1], word + " ", " " + word, word + "s", strings.ToUpper(word), word + "\x00", word + " " + word, strings.ReplaceAll(word, "-", "")} {
			if got := parse.Command(other); got != 0 && other != word && other != "wrap" && other != "unwrap" {
				t.Errorf("P12.1: Command(%q) is %d", other, got)
			}
		}
	}
	for word, kind := range map[string]int{"": 0, " ": 0, "protected": 0, "policy": 0, "type": 0, "quorum": 0, "within": 0, "uses": 0, "after": 0, "raw": 0, "1": 0, "->": 0, "import": api.CmdImport, "raw-unwrap": api.CmdRawUnwrap, "decommission": api.CmdDecommission, "head": api.CmdHead, strings.Repeat("a", 1<<20): 0} {
		if got := parse.Command(word); got != kind {
			t.Errorf("P12.1: Command(%.30q) is %d", word, got)
		}
	}
	for _, kind := range []int{math.MinInt, math.MinInt + 1, -1 << 32, -1<<32 + 1, -28, -27, -1, 0, 28, 29, 64, 255, 256, 257, 1 << 32, 1<<32 + 1, math.MaxInt - 1, math.MaxInt} {
		if got := parse.Word(kind); got != "" {
			t.Errorf("P12.1: Word(%d) is %q", kind, got)
		}
	}
}

// vocabulary returns tokens of all sorts; name stands for those that are none of the grammar, number for all numbers.
func vocabulary() map[string][]string {
	words := slices.Concat(commandWords, []string{"protected"}, otherWords, []string{"x", "x-1", "wrapped", "lif", "raw"})
	v := map[string][]string{"NAME": words, "NUMBER": {"0", "1", "7s", "2h", "1099511627776"}}
	for _, s := range slices.Concat(words, v["NUMBER"], signs) {
		v[s] = []string{s}
	}
	v["COMMAND"], v["FLAG"], v["RULE"] = commandWords, flagWords, ruleWords
	return v
}

// TestNext checks for each place of the grammar which tokens may stand there.
func TestNext(t *testing.T) {
	v := vocabulary()
	all := slices.Concat(v["NAME"], v["NUMBER"], signs)
	for _, x := range []struct{ before, next string }{
		{"", "policy"},
		{"policy", "NAME"},
		{"policy p", "{"},
		{"policy p {", "type RULE quorum }"},
		{"policy p { }", ""},
		{"policy p { type a { } }", ""},
		{"policy p { type", "NAME"},
		{"policy p { type a", "{"},
		{"policy p { type a {", "FLAG life }"},
		{"policy p { type a { mac", ";"},
		{"policy p { type a { mac ;", "generate import export encrypt decrypt protected life }"},
		{"policy p { type a { mac ; generate ; protected ;", "import export encrypt decrypt life }"},
		{"policy p { type a { generate ; import ; export ; encrypt ; decrypt ; mac ; protected ;", "life }"},
		{"policy p { type a { protected ; mac ; decrypt ; encrypt ; export ; life 1 ; import ;", "generate }"},
		{"policy p { type a { life", "NUMBER"},
		{"policy p { type a { mac ; life", "NUMBER"},
		{"policy p { type a { life 1d", ";"},
		{"policy p { type a { life 1d ;", "FLAG }"},
		{"policy p { type a { life 0 ;", "FLAG }"},
		{"policy p { type a { life 0 ; mac ;", "generate import export encrypt decrypt protected }"},
		{"policy p { type a { generate ; import ; export ; encrypt ; decrypt ; mac ; protected ; life 1 ;", "}"},
		{"policy p { type a { }", "type RULE quorum }"},
		{"policy p { type a { mac ; life 7 ; } type b {", "FLAG life }"},
		{"policy p { wrap", "NAME"},
		{"policy p { derive", "NAME"},
		{"policy p { unwrap a", "->"},
		{"policy p { raw-wrap a ->", "NAME"},
		{"policy p { raw-unwrap a -> b", ";"},
		{"policy p { type a { } wrap a -> a ;", "type RULE quorum }"},
		{"policy p { quorum", "COMMAND"},
		{"policy p { quorum mac", "NUMBER"},
		{"policy p { quorum mac 1", "after within"},
		{"policy p { quorum mac 1 after", "NUMBER"},
		{"policy p { quorum mac 1 after 0", "within"},
		{"policy p { quorum mac 1 within", "NUMBER"},
		{"policy p { quorum mac 1 within 1", "uses ;"},
		{"policy p { quorum mac 1 after 1 within 1", "uses ;"},
		{"policy p { quorum mac 1 within 1 uses", "NUMBER"},
		{"policy p { quorum mac 1 within 1 uses 1", ";"},
		{"policy p { quorum mac 1 within 1 uses 1 ;", "type RULE quorum }"},
	} {
		var allowed []string
		for next := range strings.FieldsSeq(x.next) {
			allowed = append(allowed, v[next]...)
		}
		for _, token := range all {
			text := x.before + " " + token + "\n"
			want := result{at: len(x.before) + 1, e: api.ErrSyntax}
			if slices.Contains(allowed, token) {
				want.at = len(text)
			}
			if got := parsed(text); !got.equals(want) && !(got.e == api.OK && token == "}" && slices.Contains(allowed, token)) {
				t.Errorf("P12.2: %q: %v, not %v", text, got, want)
			}
			isParsed(t, text)
		}
	}
}

// TestEnd checks all beginnings of policies, whose index is the length of the text, blanks and comments included.
func TestEnd(t *testing.T) {
	for _, text := range samples {
		l, _, _ := lex.Tokens(text)
		for n := range len(l) {
			for _, gap := range []string{"", " ", "\n\n", "\t# A", "#\n"} {
				s := lex.Join(l[:n]) + gap
				isResult(t, s, result{at: len(s), e: api.ErrSyntax})
				s = gap + lex.Join(l[:n])
				isResult(t, s, result{at: len(s), e: api.ErrSyntax})
			}
		}
		for i := range text {
			isParsed(t, text[:i])
			isParsed(t, text[i:])
		}
		for _, after := range slices.Concat(commandWords, otherWords, signs, []string{"0", "x", text}) {
			isResult(t, text+"\n"+after, result{at: len(text) + 1, e: api.ErrSyntax})
		}
		isResult(t, text+"\n \t# x", wanted(text))
	}
}

// TestChanges checks samples with a token that is missing, doubled, exchanged, or another one.
func TestChanges(t *testing.T) {
	v := vocabulary()
	for _, text := range samples {
		l, _, _ := lex.Tokens(text)
		isParsed(t, text)
		if got := parsed(text); got.e != api.OK {
			t.Fatalf("P12.2: %q: %v", text, got)
		}
		for i := range l {
			isParsed(t, lex.Join(slices.Delete(slices.Clone(l), i, i+1)))
			isParsed(t, lex.Join(slices.Insert(slices.Clone(l), i, l[i])))
			for j := i + 1; j < len(l) && j < i+8; j++ {
				changed := slices.Clone(l)
				changed[i], changed[j] = changed[j], changed[i]
				isParsed(t, lex.Join(changed))
			}
			for _, s := range slices.Concat(v["NAME"], v["NUMBER"], signs) {
				changed := slices.Clone(l)
				changed[i].Text = s
				isParsed(t, lex.Join(changed))
			}
		}
	}
}

// TestShort checks all short lists of tokens after several beginnings.
func TestShort(t *testing.T) {
	for before, tokens := range map[string]string{
		"":                           "policy p { }",
		"policy p {":                 "type wrap quorum a { } ; ->",
		"policy p { type a {":        "mac life type 1 ; }",
		"policy p { type a { } wrap": "a wrap -> ; } b",
		"policy p { quorum":          "head 2 after within uses ; }",
	} {
		n, alphabet := 5, strings.Fields(tokens)
		if testing.Short() {
			n = 3
		}
		var add func(text string, n int)
		add = func(text string, n int) {
			isParsed(t, text)
			for _, s := range alphabet {
				if n > 0 {
					add(text+" "+s, n-1)
				}
			}
		}
		add(before, n)
	}
}

// TestFlags checks all sets of flags, with and without a life, in several orders.
func TestFlags(t *testing.T) {
	for set := range 128 {
		for _, life := range []int{0, 1, 7200} {
			var limits []string
			for i, word := range flagWords {
				if set&flagValues[i] != 0 {
					limits = append(limits, word+";")
				}
			}
			want := api.Policy{Name: "p", Types: []api.Type{{Name: "a", Flags: set, Life: life}}}
			isPrinted(t, want)
			for at := range len(limits) + 1 {
				l := slices.Insert(slices.Clone(limits), at, "life "+strconv.Itoa(life)+";")
				isResult(t, "policy p { type a { "+strings.Join(l, " ")+" } }", result{p: want})
				slices.Reverse(l)
				isResult(t, "policy p { type a { "+strings.Join(l, " ")+" } }", result{p: want})
			}
		}
	}
}

// TestOnce checks that nothing occurs twice in a type, but does in two types.
func TestOnce(t *testing.T) {
	limits := append(slices.Clone(flagWords), "life 0", "life 1", "life 2d")
	for _, first := range limits {
		for _, second := range limits {
			before := "policy p { type a { " + first + "; "
			twice := strings.Fields(first)[0] == strings.Fields(second)[0]
			for _, between := range []string{"", "# x\n"} {
				text := before + between + second + "; } }"
				if got := parsed(text); twice && !got.equals(result{at: len(before + between), e: api.ErrSyntax}) || !twice && got.e != api.OK {
					t.Errorf("P12.2: %q: %v", text, got)
				}
			}
			if got := parsed(before + "} type b { " + second + "; } }"); got.e != api.OK {
				t.Errorf("P12.2: %s and %s: %v", first, second, got)
			}
		}
	}
}

// TestRules checks all kinds of rules between all types, which come before or after them.
func TestRules(t *testing.T) {
	for kind, word := range ruleWords {
		for a := range 3 {
			for b := range 3 {
				names := []string{"c", "b", "wrap"}
				rule := word + " " + names[a] + "->" + names[b] + ";"
				want := api.Policy{Name: "p", Types: []api.Type{{Name: "c"}, {Name: "b"}, {Name: "wrap"}}, Rules: []api.Rule{{Kind: kind + 1, A: a, B: b}}}
				for _, text := range []string{rule + "type c{}type b{}type wrap{}", "type c{}" + rule + "type b{}type wrap{}", "type c{}type b{}type wrap{}" + rule} {
					isResult(t, "policy p{"+text+"}", result{p: want})
				}
				isPrinted(t, want)
			}
		}
	}
}

func TestQuorums(t *testing.T) {
	for i, word := range commandWords {
		for _, x := range []struct {
			text string
			want api.Quorum
		}{
			{"2 within 3;", api.Quorum{Count: 2, Valid: 3, Uses: 1}},
			{"2 after 1m within 3h;", api.Quorum{Count: 2, Delay: 60, Valid: 10800, Uses: 1}},
			{"2 within 3 uses 4;", api.Quorum{Count: 2, Valid: 3, Uses: 4}},
			{"5d after 4 within 3 uses 2m;", api.Quorum{Count: 432000, Delay: 4, Valid: 3, Uses: 120}},
			{"0 after 0 within 0 uses 0;", api.Quorum{}},
			{"1099511627776 after 1099511627776 within 1099511627776 uses 1099511627776;", api.Quorum{Count: latest, Delay: latest, Valid: latest, Uses: latest}},
		} {
			x.want.Command = i + 1
			p := api.Policy{Name: "p", Quorums: []api.Quorum{x.want, x.want}}
			isResult(t, "policy p { quorum "+word+" "+x.text+"quorum "+word+" "+x.text+"}", result{p: p})
			isPrinted(t, p)
		}
	}
}

// TestOrder checks that items of each sort keep their order, whatever comes between them.
func TestOrder(t *testing.T) {
	isResult(t, "policy p { quorum head 1 within 1; wrap b -> a; type a { } quorum mac 2 within 2; type b { mac; } derive a -> b; wrap b -> a; type c { } quorum head 3 within 3; }", result{p: api.Policy{
		Name:    "p",
		Types:   []api.Type{{Name: "a"}, {Name: "b", Flags: 32}, {Name: "c"}},
		Rules:   []api.Rule{{Kind: 1, A: 1}, {Kind: 5, B: 1}, {Kind: 1, A: 1}},
		Quorums: []api.Quorum{{Command: 26, Count: 1, Valid: 1, Uses: 1}, {Command: 6, Count: 2, Valid: 2, Uses: 1}, {Command: 26, Count: 3, Valid: 3, Uses: 1}},
	}})
}

// TestNames checks errors of names, where ! stands before the first wrong one.
func TestNames(t *testing.T) {
	for _, text := range []string{
		"policy p { type a { } type !a { } }",
		"policy p { type a { } type !a { } type a { } }",
		"policy p { type a { } type b { } type c { } type !b { } type !a { } }",
		"policy p { wrap !a -> a; }",
		"policy p { wrap !b -> a; type a { } }",
		"policy p { type a { } wrap a -> !b; }",
		"policy p { type a { } wrap !p -> a; }",
		"policy p { type a { } wrap !wrap -> a; }",
		"policy p { type a { } wrap !aa -> a; }",
		"policy p { type aa { } wrap !a -> aa; }",
		"policy p { type a-1 { } wrap a-1 -> !a; }",
		"policy p { wrap !b -> c; type a { } }",
		"policy p { wrap a -> !b; wrap c -> a; type a { } }",
		"policy p { wrap a -> a; derive a -> !b; type a { } type a { } }",
		"policy p { type a { } wrap a -> a; type !a { } derive b -> b; }",
		"policy p { derive a -> !b; type a { } type a { } type a { } wrap c -> c; }",
		"policy p { type a { mac; } type b { } type !a { export; } wrap a -> c; }",
		"policy p { quorum mac 1 within 1; type mac { } unwrap mac -> !quorum; }",
		"policy p { type a { } type b { life 0; } raw-wrap a -> b; raw-unwrap b -> !life; raw-unwrap c -> a; }",
	} {
		at := strings.Index(text, "!")
		text = strings.ReplaceAll(text, "!", "")
		isResult(t, text, result{at: at, e: api.ErrName})
		isResult(t, "# x\n"+text, result{at: at + 4, e: api.ErrName})
	}
	for _, name := range slices.Concat(commandWords, otherWords, []string{"protected", "a", "a1", "a-1-b", "p", strings.Repeat("a", 900)}) {
		isResult(t, "policy "+name+"{type "+name+"{}wrap "+name+"->"+name+";}", result{p: api.Policy{Name: name, Types: []api.Type{{Name: name}}, Rules: []api.Rule{{Kind: 1}}}})
	}
}

// TestErrorOrder checks that errors of tokens come before those of the grammar, and these before those of names, wherever they are.
func TestErrorOrder(t *testing.T) {
	for _, x := range []struct {
		text string
		at   int
		e    api.Errno
	}{
		{"policy p { type a { } type a { } A }", 33, api.ErrSyntax},
		{"policy p { type a { } type a { } ; }", 33, api.ErrSyntax},
		{"policy p { type a { } type a { } ", 33, api.ErrSyntax},
		{"policy p { wrap a -> b; } }", 26, api.ErrSyntax},
		{"policy p { wrap a -> b; ", 24, api.ErrSyntax},
		{"type { } A", 9, api.ErrSyntax},
		{"type { } 01", 9, api.ErrSyntax},
		{"type { } 1099511627777", 9, api.ErrLimit},
		{"policy p { type a { life 12725830d; life 1; } }", 25, api.ErrLimit},
		{"policy p { wrap a -> a; } 99999999999999999999", 26, api.ErrLimit},
		{"policy p { type a { mac; mac; } wrap c -> d; }", 25, api.ErrSyntax},
		{"policy p { type a { life 1; life } }", 28, api.ErrSyntax},
		{"} }", 0, api.ErrSyntax},
		{"\n# x\n", 5, api.ErrSyntax},
		{" ", 1, api.ErrSyntax},
		{"", 0, api.ErrSyntax},
		{"policy p { } # }", 0, api.OK},
		{"policy\tp\n{\n}\n", 0, api.OK},
		{"\xff", 0, api.ErrSyntax},
		{"Policy p { }", 0, api.ErrSyntax},
		{"policies p { }", 0, api.ErrSyntax},
		{"policy p { type a { } ; }", 22, api.ErrSyntax},
		{"policy p { quorum mac 1 within 1 uses 1 uses 1; }", 40, api.ErrSyntax},
		{"policy p { quorum mac 1 after 1 after 1 within 1; }", 32, api.ErrSyntax},
		{"policy p { quorum protected 1 within 1; }", 18, api.ErrSyntax},
	} {
		got := parsed(x.text)
		if got.at != x.at || got.e != x.e || x.e != api.OK && !same(got.p, api.Policy{}) {
			t.Errorf("P12.2: %q: %v, not %d, %d", x.text, got, x.at, x.e)
		}
		isParsed(t, x.text)
	}
}

// TestLength checks texts up to and beyond the limit.
func TestLength(t *testing.T) {
	for _, gap := range []string{" ", "\n", "\t", "#"} {
		fits := bank + strings.Repeat(gap, most-len(bank))
		isResult(t, fits, result{p: wanted(bank).p})
		isResult(t, fits+gap, result{e: api.ErrLimit})
		isResult(t, strings.Repeat(gap, most), result{at: most, e: api.ErrSyntax})
		isResult(t, strings.Repeat(gap, most+1), result{e: api.ErrLimit})
	}
	for _, piece := range []string{"type a{}", "wrap a->a;", "quorum mac 1 within 1;", "policy ", "{", "}", "a", "type a{mac;mac;", "-", "9"} {
		for _, before := range []string{"", "policy p{"} {
			for _, size := range []int{most - 1, most, most + 1, 2 * most, 1 << 20} {
				text := before + strings.Repeat(piece, size/len(piece))
				text = text[:min(size, len(text))]
				if size > most+1 {
					isResult(t, text, result{e: api.ErrLimit})
				} else {
					isParsed(t, text)
				}
			}
		}
	}
	var many strings.Builder
	want := api.Policy{Name: "p"}
	for i := range 250 {
		name := "t" + strconv.Itoa(i)
		want.Types = append(want.Types, api.Type{Name: name})
		many.WriteString("type " + name + "{}")
	}
	isResult(t, "policy p{"+many.String()+"}", result{p: want})
	want.Types, want.Rules = want.Types[:1], make([]api.Rule, 300)
	for i := range want.Rules {
		want.Rules[i].Kind = 1
	}
	isResult(t, "policy p{type t0{}"+strings.Repeat("wrap t0->t0;", 300)+"}", result{p: want})
}

// TestPrint compares printed policies, and what they are parsed to.
func TestPrint(t *testing.T) {
	got, e := parse.Print(full())
	want := "policy bank {\n" +
		"\ttype master { generate; protected; life 2592000; }\n" +
		"\ttype kek-1 { import; export; }\n" +
		"\ttype data { }\n" +
		"\ttype life { generate; import; export; encrypt; decrypt; mac; protected; life 1; }\n" +
		"\twrap master -> kek-1;\n" +
		"\tderive life -> data;\n" +
		"\traw-wrap data -> data;\n" +
		"\twrap master -> kek-1;\n" +
		"\tquorum export 2 after 60 within 3600 uses 5;\n" +
		"\tquorum piece 1 within 0;\n" +
		"\tquorum piece 0 after 1 within 1099511627776 uses 0;\n" +
		"}\n"
	if got != want || e != api.OK {
		t.Errorf("P12.3: %q, %d", got, e)
	}
	isPrinted(t, full())
	isPrinted(t, api.Policy{Name: "a"})
	isPrinted(t, api.Policy{Name: "policy", Types: []api.Type{}, Rules: []api.Rule{}, Quorums: []api.Quorum{}})
	for _, n := range []int{0, 1, 2, 59, 60, 3600, 86400, latest - 1, latest} {
		for _, m := range []int{0, 1, 2, 60, latest} {
			isPrinted(t, api.Policy{Name: "a", Types: []api.Type{{Name: "b", Life: n, Flags: m & 127}}, Quorums: []api.Quorum{{Command: 1, Count: n, Delay: m, Valid: m, Uses: n}, {Command: 2, Count: m, Delay: n, Valid: n, Uses: m}}})
		}
	}
}

// TestNoText checks policies each of which has one thing that has no text.
func TestNoText(t *testing.T) {
	set := func(change func(p *api.Policy)) api.Policy {
		p := full()
		change(&p)
		return p
	}
	for _, name := range []string{"", " ", "a ", " a", "a\n", "\ta", "a b", "a#", "#", "a#x", "#a\nb", "A", "aB", "1", "1a", "a-", "-a", "a--b", "a->b", "->", "{", "}", "a;", "a_b", "\xff", "a\x00", "\xc3\xa9", strings.Repeat("a", most+1), "a" + strings.Repeat(" ", most), strings.Repeat("a ", most)} {
		isRefused(t, set(func(p *api.Policy) { p.Name = name }), api.ErrArg)
		isRefused(t, api.Policy{Name: name}, api.ErrArg)
		for i := range full().Types {
			isRefused(t, set(func(p *api.Policy) { p.Types[i].Name = name }), api.ErrArg)
		}
	}
	for i, x := range full().Types {
		for j := range full().Types {
			if i != j {
				isRefused(t, set(func(p *api.Policy) { p.Types[j].Name = x.Name }), api.ErrArg)
			}
		}
	}
	last := len(full().Types) - 1
	fields := map[string]struct {
		least, most int
		field       func(p *api.Policy) *int
	}{
		"Flags":   {0, 127, func(p *api.Policy) *int { return &p.Types[1].Flags }},
		"Life":    {0, latest, func(p *api.Policy) *int { return &p.Types[last].Life }},
		"Kind":    {1, 5, func(p *api.Policy) *int { return &p.Rules[1].Kind }},
		"A":       {0, last, func(p *api.Policy) *int { return &p.Rules[0].A }},
		"B":       {0, last, func(p *api.Policy) *int { return &p.Rules[3].B }},
		"Command": {1, 27, func(p *api.Policy) *int { return &p.Quorums[2].Command }},
		"Count":   {0, latest, func(p *api.Policy) *int { return &p.Quorums[0].Count }},
		"Delay":   {0, latest, func(p *api.Policy) *int { return &p.Quorums[1].Delay }},
		"Valid":   {0, latest, func(p *api.Policy) *int { return &p.Quorums[2].Valid }},
		"Uses":    {0, latest, func(p *api.Policy) *int { return &p.Quorums[0].Uses }},
	}
	for _, x := range fields {
		for _, n := range []int{x.least, x.least + 1, x.most - 1, x.most} {
			isPrinted(t, set(func(p *api.Policy) { *x.field(p) = n }))
		}
		for _, n := range []int{math.MinInt, -1 << 32, x.least - 2, x.least - 1, x.most + 1, x.most + 2, 1 << 62, 1<<62 + 1, math.MaxInt} {
			isRefused(t, set(func(p *api.Policy) { *x.field(p) = n }), api.ErrArg)
		}
	}
	isRefused(t, api.Policy{}, api.ErrArg)
	isRefused(t, api.Policy{Name: "a", Rules: []api.Rule{{Kind: 1}}}, api.ErrArg)
	isRefused(t, api.Policy{Name: "a", Quorums: []api.Quorum{{}}}, api.ErrArg)
}

// TestPrintLimit checks texts of policies around the limit.
func TestPrintLimit(t *testing.T) {
	rest := len(printed(full())) - len(full().Name)
	for size := most - 3; size <= most+3; size++ {
		p := full()
		p.Name = strings.Repeat("n", size-rest)
		if len(printed(p)) != size {
			t.Fatal("the text has another size")
		}
		isPrinted(t, p)
		q := full()
		q.Types[2].Name = strings.Repeat("n", (size-rest-4)/4)
		q.Name = strings.Repeat("n", size-len(printed(q))+4)
		if len(printed(q)) != size {
			t.Fatal("the text has another size")
		}
		isPrinted(t, q)
	}
	for n := range 12 {
		for _, p := range []api.Policy{
			{Name: strings.Repeat("a", most-13+n)},
			{Name: "a", Types: []api.Type{{Name: strings.Repeat("a", most-30+n)}}},
			{Name: "a", Types: []api.Type{{Name: strings.Repeat("a", most/3-20+n)}}, Rules: []api.Rule{{Kind: 1}}},
			{Name: strings.Repeat("a", most-40+n), Quorums: []api.Quorum{{Command: 1, Uses: 1}}},
		} {
			isPrinted(t, p)
		}
	}
	long := api.Policy{Name: "a", Types: []api.Type{{Name: strings.Repeat("a", most)}, {Name: "b"}}, Quorums: make([]api.Quorum, 1)}
	isRefused(t, long, api.ErrArg)
	long.Quorums[0].Command = 1
	isRefused(t, long, api.ErrLimit)
	long.Rules = []api.Rule{{Kind: 1}, {Kind: 1, A: 2}}
	isRefused(t, long, api.ErrArg)
	long.Rules[1].A = 1
	isRefused(t, long, api.ErrLimit)
	long.Types[1].Name = long.Types[0].Name
	isRefused(t, long, api.ErrArg)
}

// TestHuge checks that policies of any size are refused in time, without a text of gigabytes.
func TestHuge(t *testing.T) {
	const n = 400000
	p := api.Policy{Name: "a", Types: []api.Type{{Name: strings.Repeat("a", most)}}, Rules: slices.Repeat([]api.Rule{{Kind: 1}}, n)}
	var before, after runtime.MemStats
	runtime.ReadMemStats(&before)
	isRefused(t, p, api.ErrLimit)
	runtime.ReadMemStats(&after)
	if after.TotalAlloc-before.TotalAlloc > 1<<30 {
		t.Errorf("%d bytes", after.TotalAlloc-before.TotalAlloc)
	}
	p.Rules[n-1].B = 1
	isRefused(t, p, api.ErrArg)
	p = api.Policy{Name: "a"}
	for i := range n {
		p.Types = append(p.Types, api.Type{Name: "t" + strconv.Itoa(i)})
	}
	isRefused(t, p, api.ErrLimit)
	p.Types[n-1].Name = "t0"
	isRefused(t, p, api.ErrArg)
	p = api.Policy{Name: "a", Quorums: slices.Repeat([]api.Quorum{{Command: 1}}, n)}
	isRefused(t, p, api.ErrLimit)
	p.Quorums[n-1].Command = 0
	isRefused(t, p, api.ErrArg)
}

// dice makes policies and texts.
type dice struct{ *rand.Rand }

// of returns one of some texts.
func (d dice) of(l ...string) string { return l[d.IntN(len(l))] }

func (d dice) number() int {
	return []int{0, 1, 2, 3, 60, 86400, d.IntN(1 << 20), latest}[d.IntN(8)]
}

// policy returns a policy that has a text.
func (d dice) policy() api.Policy {
	p := api.Policy{Name: d.of("p", "type", "a-1")}
	for i := range d.IntN(5) {
		p.Types = append(p.Types, api.Type{Name: d.of("t", "wrap-", "life-1-") + strconv.Itoa(i), Flags: d.IntN(128), Life: d.number()})
	}
	if n := len(p.Types); n > 0 {
		for range d.IntN(5) {
			p.Rules = append(p.Rules, api.Rule{Kind: 1 + d.IntN(5), A: d.IntN(n), B: d.IntN(n)})
		}
	}
	for range d.IntN(4) {
		p.Quorums = append(p.Quorums, api.Quorum{Command: 1 + d.IntN(27), Count: d.number(), Delay: d.number(), Valid: d.number(), Uses: d.number()})
	}
	return p
}

// gap returns what may stand between two tokens without being noticed.
func (d dice) gap() string {
	return d.of(" ", "\t", "\n", "  ", " \n\t", "#\n", "# } A 01 ;\n", "\n#\xff\r\n")
}

// joined returns a text of tokens with gaps between them.
func (d dice) joined(l []string) string {
	text := ""
	for _, s := range l {
		text += s + d.gap()
	}
	return text
}

// words returns the tokens of a text.
func words(text string) []string {
	l, _, _ := lex.Tokens(text)
	var words []string
	for _, t := range l {
		words = append(words, t.Text)
	}
	return words
}

// TestRandom is P12.3 and P12.4 for many policies, and P12.2 for texts that are nearly theirs.
func TestRandom(t *testing.T) {
	d := dice{rand.New(rand.NewPCG(1, 2))}
	v := vocabulary()
	all := slices.Concat(v["NAME"], v["NUMBER"], signs, []string{"t0", "t1", "wrap-0"})
	for range 3000 {
		p := d.policy()
		isPrinted(t, p)
		l := words(printed(p))
		text := d.joined(l)
		if len(text) <= most {
			isResult(t, text, result{p: p})
			isParsed(t, text)
		}
		for range 1 + d.IntN(2) {
			i, j := d.IntN(len(l)), d.IntN(len(l))
			switch d.IntN(4) {
			case 0:
				l = slices.Delete(l, i, i+1)
			case 1:
				l = slices.Insert(l, i, d.of(all...))
			case 2:
				l[i] = l[j]
			case 3:
				l[i], l[j] = l[j], l[i]
			}
		}
		isParsed(t, d.joined(l))
	}
}

// TestGaps is P12.4 for what is inserted at each place between two tokens, and for printed texts of parsed ones.
func TestGaps(t *testing.T) {
	d := dice{rand.New(rand.NewPCG(3, 4))}
	for _, text := range samples {
		want := parsed(text)
		l, _, _ := lex.Tokens(text)
		for _, x := range l {
			for range 8 {
				isResult(t, text[:x.At]+d.gap()+text[x.At:], want)
				isResult(t, text[:x.At+len(x.Text)]+d.gap()+text[x.At+len(x.Text):], want)
			}
		}
		isPrinted(t, want.p)
		s, _ := parse.Print(want.p)
		if again, e := parse.Print(parsed(s).p); again != s || e != api.OK {
			t.Errorf("P12.4: %q is printed as %q", s, again)
		}
	}
}

// TestUnchanged checks that arguments stay as they are, and results share no memory that can be seen.
func TestUnchanged(t *testing.T) {
	p := full()
	for _, change := range []func(){func() {}, func() { p.Rules[0].Kind = 0 }} {
		change()
		before := api.Policy{Name: p.Name, Types: slices.Clone(p.Types), Rules: slices.Clone(p.Rules), Quorums: slices.Clone(p.Quorums)}
		parse.Print(p)
		if !same(p, before) {
			t.Errorf("Print changed %v", before)
		}
	}
	first, second := parsed(bank), parsed(bank)
	clear(first.p.Types)
	clear(first.p.Rules)
	clear(first.p.Quorums)
	_ = append(first.p.Types[:1], api.Type{Name: "x"})
	if want := wanted(bank); !second.equals(want) || !parsed(bank).equals(want) {
		t.Error("results share memory")
	}
}

// TestNoState checks that calls at the same time do not disturb each other.
func TestNoState(t *testing.T) {
	var group sync.WaitGroup
	for i := range 8 {
		group.Go(func() {
			text := samples[i%len(samples)]
			bad := text + "\n}"
			want := wanted(text)
			for range 200 {
				if got := parsed(text); !got.equals(want) {
					t.Errorf("P12.2: %q: %v, not %v", text, got, want)
					return
				}
				if got := parsed(bad); !got.equals(result{at: len(text) + 1, e: api.ErrSyntax}) {
					t.Errorf("P12.2: %q: %v", bad, got)
					return
				}
				if got, e := parse.Print(want.p); got != printed(want.p) || e != api.OK {
					t.Errorf("P12.3: %q: %q", text, got)
					return
				}
			}
		})
	}
	group.Wait()
}

func FuzzParse(f *testing.F) {
	for _, text := range samples {
		f.Add(text)
		f.Add(text + "}")
	}
	for _, text := range []string{"", "policy p {", "policy p { wrap a -> b; type a { } }", "policy p { type a { export; export; } }", "policy p { type a { life 0; life 1; } }", "policy p { type a { } type a { } }", "1x", "#\xff\n\r"} {
		f.Add(text)
	}
	f.Fuzz(func(t *testing.T, text string) {
		if len(text) > 600 { // the reference is slow
			text = text[:600]
		}
		isParsed(t, text)
		if got := parsed(text); got.e == api.OK {
			isPrinted(t, got.p)
		}
		isRefused(t, api.Policy{Name: "a", Types: []api.Type{{Name: text + " "}}}, api.ErrArg)
		if kind := parse.Command(text); kind != 0 && parse.Word(kind) != text {
			t.Errorf("P12.1: Command(%q) is %d", text, kind)
		}
	})
}
