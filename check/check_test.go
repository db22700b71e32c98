package check_test

import (
	"math"
	"math/rand/v2"
	"reflect"
	"regexp"
	"slices"
	"strconv"
	"strings"
	"sync"
	"testing"

	"custody/api"
	"custody/check"
	"custody/parse"
)

// The numbers of the document.
const (
	mostTypes = 32
	mostRules = 256
	latest    = 1 << 40
	mostUses  = 1 << 20
)

// extremes are numbers that are far from all bounds, or are within some of them if a part of their bits is dropped.
var extremes = []int{math.MinInt, math.MinInt + 1, -1 << 40, -1 << 32, -1<<32 + 1, math.MinInt32, -256, -2, -1, 1 << 32, 1<<32 + 1, 1 << 62, math.MaxInt - 1, math.MaxInt}

// result is what Check returns.
type result struct {
	n int
	e api.Errno
}

func checked(p api.Policy) result {
	n, e := check.Check(p)
	return result{n, e}
}

var nameText = regexp.MustCompile(`\A[a-z][a-z0-9]{0,11}\z`)

// fault is an error, and whether it applies.
type fault struct {
	is bool
	e  api.Errno
}

// first returns the first error that applies.
func first(faults ...fault) api.Errno {
	for _, f := range faults {
		if f.is {
			return f.e
		}
	}
	return api.OK
}

// isFrom tells whether n is from a to b.
func isFrom(n, a, b int) bool { return a <= n && n <= b }

// typeFault is P13.2 for the type number i.
func typeFault(p api.Policy, i int) api.Errno {
	t := p.Types[i]
	earlier := false
	for _, x := range p.Types[:i] {
		earlier = earlier || x.Name == t.Name
	}
	return first(
		fault{i >= mostTypes, api.ErrLimit},
		fault{!nameText.MatchString(t.Name), api.ErrName},
		fault{earlier, api.ErrName},
		fault{!isFrom(t.Flags, 0, 127), api.ErrArg},
		fault{!isFrom(t.Life, 0, latest), api.ErrArg},
	)
}

// ruleFault is P13.2 for the rule number i.
func ruleFault(p api.Policy, i int) api.Errno {
	r := p.Rules[i]
	earlier := false
	for _, x := range p.Rules[:i] {
		earlier = earlier || x.Kind == r.Kind && x.A == r.A && x.B == r.B
	}
	return first(
		fault{i >= mostRules, api.ErrLimit},
		fault{!isFrom(r.Kind, 1, 5), api.ErrArg},
		fault{!isFrom(r.A, 0, len(p.Types)-1), api.ErrArg},
		fault{!isFrom(r.B, 0, len(p.Types)-1), api.ErrArg},
		fault{earlier, api.ErrExists},
	)
}

// quorumFault is P13.2 for the quorum number i.
func quorumFault(p api.Policy, i int) api.Errno {
	q := p.Quorums[i]
	earlier := false
	for _, x := range p.Quorums[:i] {
		earlier = earlier || x.Command == q.Command
	}
	return first(
		fault{!isFrom(q.Command, 1, 27), api.ErrArg},
		fault{!isFrom(q.Count, 1, 16), api.ErrArg},
		fault{!isFrom(q.Delay, 0, latest), api.ErrArg},
		fault{!isFrom(q.Valid, q.Delay, latest), api.ErrArg},
		fault{!isFrom(q.Uses, 1, mostUses), api.ErrArg},
		fault{isFrom(q.Command, 23, 25), api.ErrDenied},
		fault{earlier, api.ErrExists},
	)
}

// wanted is P13.2.
func wanted(p api.Policy) result {
	if !nameText.MatchString(p.Name) {
		return result{-1, api.ErrName}
	}
	for n := range len(p.Types) + len(p.Rules) + len(p.Quorums) {
		rule, quorum := n-len(p.Types), n-len(p.Types)-len(p.Rules)
		var e api.Errno
		switch {
		case rule < 0:
			e = typeFault(p, n)
		case quorum < 0:
			e = ruleFault(p, rule)
		default:
			e = quorumFault(p, quorum)
		}
		if e != api.OK {
			return result{n, e}
		}
	}
	return result{}
}

// inserted returns the list in which each element stands before the first one that comes after it.
func inserted[T any](l []T, after func(x, y T) bool) []T {
	var all []T
	for _, x := range l {
		i := len(all)
		for i > 0 && after(all[i-1], x) {
			i--
		}
		all = slices.Insert(all, i, x)
	}
	return all
}

// normal is P13.3.
func normal(p api.Policy) api.Policy {
	p.Rules = inserted(p.Rules, func(x, y api.Rule) bool {
		if x.Kind != y.Kind {
			return x.Kind > y.Kind
		}
		if x.A != y.A {
			return x.A > y.A
		}
		return x.B > y.B
	})
	p.Quorums = inserted(p.Quorums, func(x, y api.Quorum) bool { return x.Command > y.Command })
	return copied(p)
}

// copied returns the policy in other memory, without nil lists.
func copied(p api.Policy) api.Policy {
	return api.Policy{
		Name:    p.Name,
		Types:   append([]api.Type{}, p.Types...),
		Rules:   append([]api.Rule{}, p.Rules...),
		Quorums: append([]api.Quorum{}, p.Quorums...),
	}
}

// equal is P13.4.
func equal(a, b api.Policy) bool { return reflect.DeepEqual(copied(a), copied(b)) }

// before returns the policy of the first n items.
func before(p api.Policy, n int) api.Policy {
	types := min(n, len(p.Types))
	rules := min(n-types, len(p.Rules))
	return api.Policy{Name: p.Name, Types: p.Types[:types], Rules: p.Rules[:rules], Quorums: p.Quorums[:n-types-rules]}
}

// isChecked checks all promises that are about one policy; the policy is short.
func isChecked(t *testing.T, p api.Policy) {
	t.Helper()
	got := checked(p)
	if want := wanted(p); got != want || check.Valid(p) != (want.e == api.OK) {
		t.Fatalf("P13.2: %v: %v and %v, not %v", p, got, check.Valid(p), want)
	}
	q := check.Normal(p)
	if want := normal(p); !equal(q, want) {
		t.Fatalf("P13.3: %v: %v, not %v", p, q, want)
	}
	if check.Same(p, q) != equal(p, q) || check.Same(q, p) != equal(p, q) || !check.Same(p, copied(p)) || !check.Same(p, p) {
		t.Fatalf("P13.4: %v and %v", p, q)
	}
	if check.Valid(q) != check.Valid(p) {
		t.Fatalf("P13.5: %v is valid, or its normal form is: %v", p, q)
	}
	if !check.Same(check.Normal(q), q) {
		t.Fatalf("P13.5: the normal form of %v is not normal", p)
	}
	if got.e != api.OK && got.n >= 0 && !check.Valid(before(p, got.n)) {
		t.Fatalf("P13.6: %v: faulty before item %d", p, got.n)
	}
}

// isResult checks what Check returns, and the promises about the policy.
func isResult(t *testing.T, p api.Policy, n int, e api.Errno) {
	t.Helper()
	if got := checked(p); got != (result{n, e}) || check.Valid(p) != (e == api.OK) {
		t.Errorf("P13.2: %v: %v, not %v", p, got, result{n, e})
	}
	isChecked(t, p)
}

// full returns a valid policy with items of all sorts: the types are the items 0 to 3, the rules 4 to 8, the quorums 9 to 12.
func full() api.Policy {
	return api.Policy{
		Name: "bank",
		Types: []api.Type{
			{Name: "master", Flags: 65, Life: 2592000},
			{Name: "kek1", Flags: 6},
			{Name: "d"},
			{Name: "abcdefghijkl", Flags: 127, Life: latest},
		},
		Rules: []api.Rule{
			{Kind: 5, A: 3, B: 2},
			{Kind: 1, A: 0, B: 1},
			{Kind: 1, A: 1, B: 0},
			{Kind: 1, A: 0, B: 0},
			{Kind: 3, A: 2, B: 2},
		},
		Quorums: []api.Quorum{
			{Command: 27, Count: 16, Delay: latest, Valid: latest, Uses: mostUses},
			{Command: 3, Count: 2, Delay: 60, Valid: 3600, Uses: 5},
			{Command: 1, Count: 1, Uses: 1},
			{Command: 22, Count: 3, Valid: 1, Uses: 2},
		},
	}
}

// changed returns full() after a change.
func changed(change func(p *api.Policy)) api.Policy {
	p := full()
	change(&p)
	return p
}

// types returns n types with different names.
func types(n int) []api.Type {
	l := make([]api.Type, n)
	for i := range l {
		l[i].Name = "t" + strconv.Itoa(i)
	}
	return l
}

// rules returns n different rules between 32 types.
func rules(n int) []api.Rule {
	l := make([]api.Rule, n)
	for i := range l {
		l[i] = api.Rule{Kind: 1 + i%5, A: i / 5 % 32, B: i / 160}
	}
	return l
}

// quorums returns quorums for all commands that may have one.
func quorums() []api.Quorum {
	var l []api.Quorum
	for c := range 28 {
		if c != 0 && c != 23 && c != 24 && c != 25 {
			l = append(l, api.Quorum{Command: c, Count: 1, Valid: c, Uses: 1})
		}
	}
	return l
}

func TestExamples(t *testing.T) {
	a, b := api.Type{Name: "a"}, api.Type{Name: "b"}
	isResult(t, api.Policy{Types: []api.Type{a, a}}, -1, api.ErrName)
	isResult(t, api.Policy{Name: "p", Types: []api.Type{a, a}}, 1, api.ErrName)
	isResult(t, api.Policy{Name: "p", Types: []api.Type{a}, Rules: []api.Rule{{Kind: 1}, {Kind: 1, B: 1}}}, 2, api.ErrArg)
	isResult(t, api.Policy{Name: "p", Types: []api.Type{a}, Rules: []api.Rule{{Kind: 1}}, Quorums: []api.Quorum{{Command: 24, Count: 1, Uses: 1}}}, 2, api.ErrDenied)
	isResult(t, api.Policy{Name: "p"}, 0, api.OK)
	isResult(t, api.Policy{Name: "p", Types: []api.Type{b, a}}, 0, api.OK)
	isResult(t, api.Policy{}, -1, api.ErrName)
	isResult(t, full(), 0, api.OK)
}

// TestParsed checks policies that are read from texts, as the language allows more than what is valid.
func TestParsed(t *testing.T) {
	for _, x := range []struct {
		text string
		n    int
		e    api.Errno
	}{
		{"policy bank { type master { generate; protected; } type data { generate; encrypt; decrypt; } wrap master -> data; unwrap master -> data; quorum destroy 2 after 1h within 1d; }", 0, api.OK},
		{"policy policy { type type { } type policy { } wrap type -> policy; }", 0, api.OK},
		{"policy p-1 { }", -1, api.ErrName},
		{"policy p { type a { } type raw-kek { } }", 1, api.ErrName},
		{"policy p { type a { life 1099511627776; } type abcdefghijklm { } }", 1, api.ErrName},
		{"policy p { wrap a -> a; type a { } wrap a -> a; }", 2, api.ErrExists},
		{"policy p { quorum mac 0 within 1h; }", 0, api.ErrArg},
		{"policy p { quorum mac 17 within 1h; }", 0, api.ErrArg},
		{"policy p { quorum mac 1 after 1h within 59m; }", 0, api.ErrArg},
		{"policy p { quorum mac 1 within 0 uses 0; }", 0, api.ErrArg},
		{"policy p { quorum mac 1 within 0; quorum propose 1 within 0; }", 1, api.ErrDenied},
		{"policy p { quorum mac 1 within 0; quorum mac 2 within 1; type a { } derive a -> a; }", 3, api.ErrExists},
	} {
		p, _, e := parse.Parse(x.text)
		if e != api.OK {
			t.Fatal(x.text, e)
		}
		isResult(t, p, x.n, x.e)
	}
}

func isName(t *testing.T, s string) {
	t.Helper()
	want := nameText.MatchString(s)
	if got := check.Name(s); got != want {
		t.Fatalf("P13.1: Name(%.60q) (%d bytes) is %v", s, len(s), got)
	}
	asPolicy, asType := result{}, result{}
	if !want {
		asPolicy, asType = result{-1, api.ErrName}, result{0, api.ErrName}
	}
	if got := checked(api.Policy{Name: s}); got != asPolicy {
		t.Fatalf("P13.2: the policy %.60q: %v", s, got)
	}
	if got := checked(api.Policy{Name: "a", Types: []api.Type{{Name: s}}}); got != asType {
		t.Fatalf("P13.2: the type %.60q: %v", s, got)
	}
}

func TestName(t *testing.T) {
	for s, want := range map[string]bool{"a": true, "z9": true, "abcdefghijkl": true, "a12345678901": true, "abcdefghijklm": false, "": false, "9": false, "0a": false, "aB": false, "A": false, "a-b": false, "a-": false, "a b": false, " a": false, "a\n": false, "\na": false, "a\x00": false, "é": false, "aé": false, "a\u0430": false, "a９": false, "a_b": false, "a{": false, "a`": false, "a/": false, "a:": false} {
		if got := check.Name(s); got != want {
			t.Errorf("P13.1: Name(%q) is %v", s, got)
		}
	}
	alphabet := "\x00 -/059:@AZ[_`amz{\x7f\x80\xff"
	for n := range 4 {
		words(alphabet, n, func(s string) { isName(t, s) })
	}
	for n := range 20 {
		isName(t, strings.Repeat("9", n))
		for _, good := range []string{strings.Repeat("z", n), "a" + strings.Repeat("0", n), strings.Repeat("b7", n/2)} {
			isName(t, good)
			for i := range good {
				for c := range 256 {
					isName(t, good[:i]+string([]byte{byte(c)})+good[i+1:])
				}
			}
		}
	}
	for _, s := range []string{strings.Repeat("a", 256+1), strings.Repeat("a", 1<<16+1), strings.Repeat("é", 6), strings.Repeat("a", 1<<20)} {
		isName(t, s)
	}
}

// words calls f with all texts of n bytes of an alphabet.
func words(alphabet string, n int, f func(s string)) {
	if n == 0 {
		f("")
		return
	}
	words(alphabet, n-1, func(s string) {
		for i := range len(alphabet) {
			f(s + alphabet[i:i+1])
		}
	})
}

// TestNumbers checks numbers around the bounds of every field of every item of a policy.
func TestNumbers(t *testing.T) {
	around := func(l ...int) []int {
		all := slices.Clone(extremes)
		for _, n := range l {
			all = append(all, n-1, n, n+1)
		}
		return all
	}
	p := full()
	vary := func(n int, field *int, least, most int, good func() bool) {
		t.Helper()
		old := *field
		for _, x := range append(around(least, most), (least+most)/2) {
			*field = x
			want := result{}
			if !isFrom(x, least, most) {
				want = result{n, api.ErrArg}
			}
			if good() {
				isResult(t, p, want.n, want.e)
			}
		}
		*field = old
	}
	always := func() bool { return true }
	for i := range p.Types {
		vary(i, &p.Types[i].Flags, 0, 127, always)
		vary(i, &p.Types[i].Life, 0, latest, always)
	}
	for i := range p.Rules {
		r := &p.Rules[i]
		unequal := func() bool {
			same := 0
			for _, x := range p.Rules {
				if x == *r {
					same++
				}
			}
			return same == 1
		}
		vary(4+i, &r.Kind, 1, 5, unequal)
		vary(4+i, &r.A, 0, 3, unequal)
		vary(4+i, &r.B, 0, 3, unequal)
	}
	for i := range p.Quorums {
		q := &p.Quorums[i]
		vary(9+i, &q.Count, 1, 16, always)
		vary(9+i, &q.Delay, 0, q.Valid, always)
		vary(9+i, &q.Valid, q.Delay, latest, always)
		vary(9+i, &q.Uses, 1, mostUses, always)
		vary(9+i, &q.Command, 1, 27, func() bool {
			return !isFrom(q.Command, 1, 27) || !slices.Contains([]int{27, 3, 1, 22, 23, 24, 25}, q.Command)
		})
	}
}

// TestFlags checks all sums of flags, and each bit beyond them.
func TestFlags(t *testing.T) {
	p := full()
	for flags := range 1024 {
		p.Types[2].Flags = flags
		isChecked(t, p)
		if check.Valid(p) != (flags < 128) {
			t.Errorf("P13.2: flags %d", flags)
		}
	}
	for bit := range 64 {
		p.Types[2].Flags = 1<<bit | 1
		isChecked(t, p)
	}
}

// TestIndices checks the types of rules for all numbers of types.
func TestIndices(t *testing.T) {
	for n := range mostTypes + 1 {
		for _, i := range append([]int{0, 1, n - 2, n - 1, n, n + 1, 31, 32, 33}, extremes...) {
			for kind := range 7 {
				for _, r := range []api.Rule{{Kind: kind, A: i}, {Kind: kind, B: i}, {Kind: kind, A: i, B: i}} {
					p := api.Policy{Name: "p", Types: types(n), Rules: []api.Rule{r}}
					if r.Kind >= 1 && r.Kind <= 5 && r.A >= 0 && r.B >= 0 && r.A < n && r.B < n {
						isResult(t, p, 0, api.OK)
					} else {
						isResult(t, p, n, api.ErrArg)
					}
				}
			}
		}
	}
}

// TestCommands checks quorums for every command, alone and after one for every other command.
func TestCommands(t *testing.T) {
	for c := -3; c < 300; c++ {
		q := api.Quorum{Command: c, Count: 1, Uses: 1}
		want := result{}
		switch {
		case c < 1 || c > 27:
			want.e = api.ErrArg
		case c == api.CmdPropose || c == api.CmdApprove || c == api.CmdWithdraw:
			want.e = api.ErrDenied
		}
		isResult(t, api.Policy{Name: "p", Quorums: []api.Quorum{q}}, want.n, want.e)
		if want.e != api.OK {
			for _, wrong := range []api.Quorum{{Command: c}, {Command: c, Count: 17, Uses: 1}, {Command: c, Count: 1}, {Command: c, Count: 1, Delay: 1, Uses: 1}} {
				isResult(t, api.Policy{Name: "p", Quorums: []api.Quorum{wrong, wrong}}, 0, api.ErrArg)
			}
			continue
		}
		for _, x := range quorums() {
			p := api.Policy{Name: "p", Types: types(1), Quorums: []api.Quorum{x, q}}
			if x.Command == c {
				isResult(t, p, 2, api.ErrExists)
			} else {
				isResult(t, p, 0, api.OK)
			}
		}
	}
	for i, x := range quorums() {
		p := api.Policy{Name: "p", Types: types(2), Rules: []api.Rule{{Kind: 2}}, Quorums: quorums()}
		isResult(t, p, 0, api.OK)
		p.Quorums = append(p.Quorums, api.Quorum{Command: x.Command, Count: 3, Delay: 4, Valid: 99, Uses: 5})
		isResult(t, p, 3+24, api.ErrExists)
		p.Quorums[i].Uses = 0
		isResult(t, p, 3+i, api.ErrArg)
	}
}

// TestTimes checks all pairs of the delay and the end of a quorum.
func TestTimes(t *testing.T) {
	times := append([]int{0, 1, 2, 3, 59, 60, 61, 1<<31 - 1, 1 << 31, latest - 1, latest, latest + 1}, extremes...)
	for _, delay := range times {
		for _, valid := range times {
			p := full()
			p.Quorums[2].Delay, p.Quorums[2].Valid = delay, valid
			if delay >= 0 && delay <= valid && valid <= latest {
				isResult(t, p, 0, api.OK)
			} else {
				isResult(t, p, 11, api.ErrArg)
			}
		}
	}
}

// TestLimits checks policies with as many items as possible, and more.
func TestLimits(t *testing.T) {
	for _, n := range []int{0, 1, 31, 32, 33, 34, 40, 64, 65, 300} {
		for _, m := range []int{0, 1, 254, 255, 256, 257, 258, 300, 513} {
			p := api.Policy{Name: "p", Types: types(n), Rules: rules(m), Quorums: quorums()}
			for i := range p.Rules {
				p.Rules[i].A %= max(n, 1)
				p.Rules[i].B %= max(n, 1)
			}
			got := checked(p)
			switch {
			case n > 32 && got != result{32, api.ErrLimit}:
				t.Errorf("P13.2: %d types: %v", n, got)
			case n == 0 && m > 0 && got != result{0, api.ErrArg}:
				t.Errorf("P13.2: %d rules without types: %v", m, got)
			case n == 32 && m > 256 && got != result{32 + 256, api.ErrLimit}:
				t.Errorf("P13.2: %d rules: %v", m, got)
			case n == 32 && m <= 256 && got != result{0, api.OK}:
				t.Errorf("P13.2: %d types and %d rules: %v", n, m, got)
			}
			isChecked(t, p)
		}
	}
}

// TestOrder checks items with several faults: the first one counts, and the limits come first.
func TestOrder(t *testing.T) {
	for _, last := range []api.Type{{Name: "a"}, {}, {Name: "t0"}, {Name: "a", Flags: -1}, {Name: "a", Life: -1}, {Name: "-", Flags: 128, Life: -1}} {
		isResult(t, api.Policy{Name: "p", Types: append(types(32), last), Rules: make([]api.Rule, 2)}, 32, api.ErrLimit)
	}
	for _, name := range []string{"", "A", "t1", "a-b", "abcdefghijklm"} {
		for _, x := range []api.Type{{}, {Flags: -1}, {Flags: 128}, {Life: -1}, {Flags: 255, Life: latest + 1}} {
			x.Name = name
			isResult(t, api.Policy{Name: "p", Types: append(types(5), x, x)}, 5, api.ErrName)
			isResult(t, api.Policy{Name: "p", Types: append(types(31), x, x)}, 31, api.ErrName)
		}
	}
	for _, last := range []api.Rule{{Kind: 5, A: 31, B: 31}, {}, {Kind: 6}, {Kind: 1}, {Kind: 1, A: -1}, {Kind: 1, B: 32}} {
		isResult(t, api.Policy{Name: "p", Types: types(32), Rules: append(rules(256), last), Quorums: make([]api.Quorum, 2)}, 32+256, api.ErrLimit)
	}
	for i, r := range rules(255) {
		isResult(t, api.Policy{Name: "p", Types: types(32), Rules: append(rules(255), r, r)}, 32+255, api.ErrExists)
		r.Kind += 5
		isResult(t, api.Policy{Name: "p", Types: types(32), Rules: append(rules(255), r, r)}, 32+255, api.ErrArg)
		r.Kind, r.B = 1+i%5, 31
		isResult(t, api.Policy{Name: "p", Types: types(32), Rules: append(rules(255), r)}, 0, api.OK)
	}
}

// TestEarlier checks items that have something in common with earlier ones.
func TestEarlier(t *testing.T) {
	for j := range 32 {
		for i := range j {
			p := api.Policy{Name: "t0", Types: types(32)}
			p.Types[i].Flags, p.Types[i].Life = 1, 2
			p.Types[j].Name = p.Types[i].Name
			isResult(t, p, j, api.ErrName)
			p.Types[j].Name += "x"
			isResult(t, p, 0, api.OK)
		}
	}
	for i := range 5 {
		for _, other := range []api.Rule{{Kind: 1, A: 2, B: 3}, {Kind: 2, A: 1, B: 3}, {Kind: 2, A: 2, B: 2}, {Kind: 3, A: 2, B: 3}, {Kind: 2, A: 3, B: 2}} {
			p := full()
			p.Rules[i] = api.Rule{Kind: 2, A: 2, B: 3}
			p.Rules = append(p.Rules, other)
			isResult(t, p, 0, api.OK)
			p.Rules = append(p.Rules, p.Rules[i])
			isResult(t, p, 10, api.ErrExists)
			p.Rules = append(p.Rules, api.Rule{})
			isResult(t, p, 10, api.ErrExists)
		}
	}
}

// TestFirst checks policies with two faulty items, of all sorts and at all places: the first one counts, and the name comes first.
func TestFirst(t *testing.T) {
	type hurt struct {
		n    int
		e    api.Errno
		make func(p *api.Policy)
	}
	var hurts []hurt
	add := func(n int, e api.Errno, f func(p *api.Policy)) { hurts = append(hurts, hurt{n, e, f}) }
	add(-1, api.ErrName, func(p *api.Policy) { p.Name = "" })
	add(-1, api.ErrName, func(p *api.Policy) { p.Name = "Bank" })
	for i := range 4 {
		add(i, api.ErrName, func(p *api.Policy) { p.Types[i].Name = "" })
		add(i, api.ErrArg, func(p *api.Policy) { p.Types[i].Flags = 128 })
		add(i, api.ErrArg, func(p *api.Policy) { p.Types[i].Life = -1 })
	}
	add(3, api.ErrName, func(p *api.Policy) { p.Types[3].Name = "kek1" })
	for i := range 5 {
		add(4+i, api.ErrArg, func(p *api.Policy) { p.Rules[i].Kind = 0 })
		add(4+i, api.ErrArg, func(p *api.Policy) { p.Rules[i].A = 4 })
		add(4+i, api.ErrArg, func(p *api.Policy) { p.Rules[i].B = -1 })
	}
	add(8, api.ErrExists, func(p *api.Policy) { p.Rules[4] = api.Rule{Kind: 1, A: 1, B: 0} })
	for i := range 4 {
		add(9+i, api.ErrArg, func(p *api.Policy) { p.Quorums[i].Count = 0 })
		add(9+i, api.ErrDenied, func(p *api.Policy) { p.Quorums[i].Command = 25 })
	}
	add(12, api.ErrExists, func(p *api.Policy) { p.Quorums[3].Command = 3 })
	for _, x := range hurts {
		isResult(t, changed(x.make), x.n, x.e)
		for _, y := range hurts {
			if x.n < y.n {
				isResult(t, changed(func(p *api.Policy) { y.make(p); x.make(p) }), x.n, x.e)
			}
			isChecked(t, changed(func(p *api.Policy) { x.make(p); y.make(p) }))
		}
	}
}

// sequences calls f with all lists of n elements of l.
func sequences[T any](l []T, n int, f func(x []T)) {
	if n == 0 {
		f(nil)
		return
	}
	sequences(l, n-1, func(x []T) {
		for _, last := range l {
			f(append(slices.Clone(x), last))
		}
	})
}

func TestNormal(t *testing.T) {
	p := full()
	want := full()
	want.Rules = []api.Rule{{Kind: 1, A: 0, B: 0}, {Kind: 1, A: 0, B: 1}, {Kind: 1, A: 1, B: 0}, {Kind: 3, A: 2, B: 2}, {Kind: 5, A: 3, B: 2}}
	want.Quorums = []api.Quorum{p.Quorums[2], p.Quorums[1], p.Quorums[3], p.Quorums[0]}
	if got := check.Normal(p); !equal(got, want) {
		t.Errorf("P13.3: %v, not %v", got, want)
	}
	var all []api.Rule
	for i := range 8 {
		all = append(all, api.Rule{Kind: 1 + i&1, A: i >> 1 & 1, B: i >> 2})
	}
	for n := range 5 {
		sequences(all, n, func(l []api.Rule) { isChecked(t, api.Policy{Name: "p", Types: types(2), Rules: l}) })
	}
	several := []api.Quorum{{Command: 1, Count: 1, Uses: 1}, {Command: 1, Count: 2, Uses: 1}, {Command: 2, Count: 2, Uses: 1}, {Command: 2, Count: 1, Uses: 1}, {Command: 3, Count: 1, Uses: 1}, {Command: 0, Valid: -1}}
	for n := range 6 {
		sequences(several, n, func(l []api.Quorum) { isChecked(t, api.Policy{Name: "p", Types: types(1), Quorums: l}) })
	}
}

// TestNormalExtremes checks the order of numbers whose difference is too large for an int.
func TestNormalExtremes(t *testing.T) {
	far := []int{math.MinInt, math.MinInt + 1, -1, 0, 1, math.MaxInt}
	for _, a := range far {
		for _, b := range far {
			for _, c := range far {
				l := []api.Rule{{Kind: a, A: 7, B: 7}, {Kind: b, A: 6, B: 8}, {Kind: c, A: 6, B: 7}, {Kind: 5, A: a}, {Kind: 5, A: b}, {Kind: 5, A: c}, {Kind: 6, B: a}, {Kind: 6, B: b}, {Kind: 6, B: c}}
				q := []api.Quorum{{Command: a, Count: 3}, {Command: b, Count: 2}, {Command: c, Count: 1}}
				isChecked(t, api.Policy{Name: "p", Types: types(9), Rules: l, Quorums: q})
			}
		}
	}
}

// TestNormalLong checks long lists with many equal elements, which need not keep their order in all ways of sorting.
func TestNormalLong(t *testing.T) {
	d := rand.New(rand.NewPCG(1, 2))
	for _, n := range []int{11, 12, 13, 20, 21, 50, 100, 500, 2000} {
		for _, commands := range []int{1, 2, 3, 30} {
			var p api.Policy
			for i := range n {
				p.Types = append(p.Types, api.Type{Name: strconv.Itoa(d.IntN(3)), Flags: d.IntN(3)})
				p.Rules = append(p.Rules, api.Rule{Kind: d.IntN(4), A: d.IntN(3) - 1, B: d.IntN(3) - 1})
				p.Quorums = append(p.Quorums, api.Quorum{Command: d.IntN(commands), Count: i, Delay: -i, Valid: d.Int(), Uses: i % 7})
			}
			isChecked(t, p)
		}
	}
}

func TestSame(t *testing.T) {
	var p api.Policy
	changes := []func(){
		func() { p.Name = "ban" }, func() { p.Name = "bank " }, func() { p.Name = "" },
		func() { p.Types = nil }, func() { p.Rules = nil }, func() { p.Quorums = nil },
		func() { p.Types = append(p.Types, p.Types[3]) }, func() { p.Rules = append(p.Rules, api.Rule{}) }, func() { p.Quorums = append(p.Quorums, api.Quorum{}) },
		func() { slices.Reverse(p.Types) }, func() { slices.Reverse(p.Rules) }, func() { slices.Reverse(p.Quorums) },
		func() { p = check.Normal(p) }, func() { p = api.Policy{} },
	}
	field := func(n *int) {
		changes = append(changes, func() { *n++ }, func() { *n-- }, func() { *n += 1 << 32 }, func() { *n = -1 - *n })
	}
	p = full()
	for i := range p.Types {
		x := &p.Types[i]
		changes = append(changes, func() { x.Name += "x" }, func() { x.Name = x.Name[1:] }, func() { p.Types = slices.Delete(slices.Clone(p.Types), i, i+1) })
		field(&x.Flags)
		field(&x.Life)
	}
	for i := range p.Rules {
		x := &p.Rules[i]
		changes = append(changes, func() { p.Rules = slices.Delete(slices.Clone(p.Rules), i, i+1) })
		for _, n := range []*int{&x.Kind, &x.A, &x.B} {
			field(n)
		}
	}
	for i := range p.Quorums {
		x := &p.Quorums[i]
		changes = append(changes, func() { p.Quorums = slices.Delete(slices.Clone(p.Quorums), i, i+1) })
		for _, n := range []*int{&x.Command, &x.Count, &x.Delay, &x.Valid, &x.Uses} {
			field(n)
		}
	}
	lists := p // the changes of fields are made in its memory
	seen := []api.Policy{full()}
	for i, change := range changes {
		p = lists
		copy(p.Types, full().Types)
		copy(p.Rules, full().Rules)
		copy(p.Quorums, full().Quorums)
		if !check.Same(p, full()) {
			t.Fatal("P13.4: the same policies differ")
		}
		change()
		if check.Same(p, full()) || check.Same(full(), p) {
			t.Errorf("P13.4: change %d makes no difference: %v", i, p)
		}
		seen = append(seen, copied(p))
	}
	for _, a := range seen {
		for _, b := range seen {
			if check.Same(a, b) != equal(a, b) {
				t.Fatalf("P13.4: %v and %v", a, b)
			}
		}
	}
	if !check.Same(api.Policy{}, api.Policy{Types: []api.Type{}, Rules: []api.Rule{}, Quorums: []api.Quorum{}}) {
		t.Error("P13.4: lists without elements differ")
	}
}

// contains tells whether each item of l is one of m.
func contains[T comparable](m, l []T) bool {
	return !slices.ContainsFunc(l, func(x T) bool { return !slices.Contains(m, x) })
}

// TestSameNormal is the last sentence of P13.5, for all pairs of many policies.
func TestSameNormal(t *testing.T) {
	var all []api.Policy
	add := func(p api.Policy) {
		if check.Valid(p) {
			all = append(all, p)
		}
	}
	for _, name := range []string{"p", "q"} {
		for _, l := range [][]api.Type{types(2), {{Name: "t1"}, {Name: "t0"}}, {{Name: "t0", Flags: 1}, {Name: "t1"}}} {
			for n := range 4 {
				sequences([]api.Rule{{Kind: 1}, {Kind: 1, B: 1}, {Kind: 2, A: 1}}, n, func(x []api.Rule) {
					add(api.Policy{Name: name, Types: l, Rules: x})
				})
				sequences([]api.Quorum{{Command: 3, Count: 1, Uses: 1}, {Command: 3, Count: 2, Uses: 1}, {Command: 4, Count: 1, Uses: 1}, {Command: 1, Count: 1, Uses: 1}}, n, func(x []api.Quorum) {
					add(api.Policy{Name: name, Types: l, Quorums: x})
					add(api.Policy{Name: name, Types: l, Rules: []api.Rule{{Kind: 1}}, Quorums: x})
				})
			}
		}
	}
	for _, a := range all {
		for _, b := range all {
			same := a.Name == b.Name && slices.Equal(a.Types, b.Types) && contains(a.Rules, b.Rules) && contains(b.Rules, a.Rules) && contains(a.Quorums, b.Quorums) && contains(b.Quorums, a.Quorums)
			if check.Same(check.Normal(a), check.Normal(b)) != same {
				t.Fatalf("P13.5: %v and %v", a, b)
			}
		}
	}
}

// dice makes random policies.
type dice struct{ *rand.Rand }

// number returns a number that is mostly from a to b, and otherwise a little or far beyond.
func (d dice) number(a, b int) int {
	switch d.IntN(60) {
	case 0:
		return []int{a - 1, b + 1, a - 100, b + 100}[d.IntN(4)]
	case 1:
		return extremes[d.IntN(len(extremes))]
	case 2, 3, 4:
		return a
	case 5, 6, 7:
		return b
	}
	return a + int(d.Uint64N(uint64(b-a)+1))
}

// name returns a text that is mostly a name.
func (d dice) name() string {
	s := []byte{byte(d.number('a', 'z'))}
	for range d.IntN(5) {
		s = append(s, byte(d.number('a', 'z')))
	}
	if d.IntN(60) == 0 {
		s = append(s, "abcd1234567-"[d.IntN(12):]...)
	}
	return string(s)
}

func (d dice) policy() api.Policy {
	p := api.Policy{Name: d.name()}
	for range d.IntN(6) {
		p.Types = append(p.Types, api.Type{Name: d.name(), Flags: d.number(0, 127), Life: d.number(0, latest)})
	}
	for range d.IntN(9) * min(len(p.Types), 1) {
		p.Rules = append(p.Rules, api.Rule{Kind: d.number(1, 5), A: d.number(0, len(p.Types)-1), B: d.number(0, len(p.Types)-1)})
	}
	for range d.IntN(6) {
		delay := d.number(0, latest)
		p.Quorums = append(p.Quorums, api.Quorum{Command: d.number(1, 27), Count: d.number(1, 16), Delay: delay, Valid: d.number(min(max(delay, 0), latest), latest), Uses: d.number(1, mostUses)})
	}
	return p
}

func TestRandom(t *testing.T) {
	d := dice{rand.New(rand.NewPCG(3, 4))}
	counts := map[api.Errno]int{}
	for range 20000 {
		p := d.policy()
		isChecked(t, p)
		counts[checked(p).e]++
		q := copied(p)
		d.Shuffle(len(q.Rules), func(i, j int) { q.Rules[i], q.Rules[j] = q.Rules[j], q.Rules[i] })
		if check.Valid(p) && !check.Valid(q) || !slices.Equal(check.Normal(p).Rules, check.Normal(q).Rules) {
			t.Fatalf("P13.5: %v and %v", p, q)
		}
	}
	for _, e := range []api.Errno{api.OK, api.ErrArg, api.ErrName, api.ErrDenied, api.ErrExists} {
		if counts[e] < 500 {
			t.Errorf("only %d random policies have the result %d", counts[e], e)
		}
	}
}

// TestLarge is P1 for policies of very many items.
func TestLarge(t *testing.T) {
	const n = 1 << 20
	last := api.Quorum{Command: 1, Count: 1, Uses: 1}
	for _, x := range []struct {
		p api.Policy
		n int
		e api.Errno
	}{
		{api.Policy{Name: "p", Types: types(n)}, 32, api.ErrLimit},
		{api.Policy{Name: "p", Types: make([]api.Type, n)}, 0, api.ErrName},
		{api.Policy{Name: "p", Rules: make([]api.Rule, n)}, 0, api.ErrArg},
		{api.Policy{Name: "p", Types: types(2), Rules: slices.Repeat([]api.Rule{{Kind: 1}}, n)}, 3, api.ErrExists},
		{api.Policy{Name: "p", Types: types(32), Rules: append(rules(256), make([]api.Rule, n)...)}, 288, api.ErrLimit},
		{api.Policy{Name: "p", Quorums: make([]api.Quorum, n)}, 0, api.ErrArg},
		{api.Policy{Name: "p", Quorums: append(quorums(), slices.Repeat([]api.Quorum{last}, n)...)}, 24, api.ErrExists},
		{api.Policy{Name: strings.Repeat("a", n), Types: types(n), Rules: make([]api.Rule, n)}, -1, api.ErrName},
	} {
		if got := checked(x.p); got != (result{x.n, x.e}) || check.Valid(x.p) {
			t.Errorf("P13.2: %d types, %d rules, %d quorums: %v", len(x.p.Types), len(x.p.Rules), len(x.p.Quorums), got)
		}
		slices.Reverse(x.p.Rules)
		q := check.Normal(x.p)
		if !slices.Equal(q.Types, x.p.Types) || len(q.Rules) != len(x.p.Rules) || len(q.Quorums) != len(x.p.Quorums) || !check.Same(q, check.Normal(q)) || !check.Same(x.p, x.p) {
			t.Errorf("P13.3: %d types, %d rules, %d quorums", len(x.p.Types), len(x.p.Rules), len(x.p.Quorums))
		}
	}
}

// roomy returns full() in lists with room for more elements, and the elements that lie there.
func roomy() (api.Policy, func() []int) {
	p := full()
	a := append(p.Types, api.Type{Flags: 1}, api.Type{Flags: 2})
	b := append(p.Rules, api.Rule{Kind: 3}, api.Rule{Kind: 4})
	c := append(p.Quorums, api.Quorum{Uses: 5}, api.Quorum{Uses: 6})
	p.Types, p.Rules, p.Quorums = a[:4], b[:5], c[:4]
	return p, func() []int { return []int{a[4].Flags, a[5].Flags, b[5].Kind, b[6].Kind, c[4].Uses, c[5].Uses} }
}

// spoil changes the lists of a policy, and what lies behind them.
func spoil(p api.Policy) {
	clear(p.Types[:cap(p.Types)])
	clear(p.Rules[:cap(p.Rules)])
	clear(p.Quorums[:cap(p.Quorums)])
}

// TestMemory checks that arguments stay as they are, and that the result of Normal is new memory.
func TestMemory(t *testing.T) {
	p, rest := roomy()
	unchanged := func(what string) {
		t.Helper()
		if !equal(p, full()) || !slices.Equal(rest(), []int{1, 2, 3, 4, 5, 6}) {
			t.Fatalf("P13.3: %s changes an argument: %v %v", what, p, rest())
		}
	}
	checked(p)
	check.Valid(p)
	check.Same(p, check.Normal(p))
	unchanged("a call")
	for _, arrange := range []func(){func() {}, func() { p = check.Normal(p) }} {
		arrange()
		before := copied(p)
		a, b := check.Normal(p), check.Normal(p)
		spoil(a)
		if !equal(p, before) || !equal(b, normal(before)) {
			t.Fatalf("P13.3: results share memory: %v %v", p, b)
		}
		spoil(p)
		if !equal(b, normal(before)) {
			t.Fatalf("P13.3: the result shares memory with the argument: %v", b)
		}
		p, rest = roomy()
	}
	a := check.Normal(p)
	_ = append(a.Types, api.Type{Flags: 7})
	_ = append(a.Rules, api.Rule{Kind: 7})
	_ = append(a.Quorums, api.Quorum{Uses: 7})
	unchanged("a longer result")
	p.Types, p.Rules, p.Quorums = p.Types[:0], p.Rules[:0], p.Quorums[:0]
	a = check.Normal(p)
	spoil(a)
	_ = append(a.Types, api.Type{Flags: 7})
	_ = append(a.Rules, api.Rule{Kind: 7})
	_ = append(a.Quorums, api.Quorum{Uses: 7})
	p.Types, p.Rules, p.Quorums = p.Types[:4], p.Rules[:5], p.Quorums[:4]
	unchanged("a result of empty lists")
}

// TestNoState checks that calls at the same time, also for the same policy, do not disturb each other.
func TestNoState(t *testing.T) {
	p := full()
	bad := changed(func(p *api.Policy) { p.Quorums[3].Command = 3 })
	want := normal(p)
	var group sync.WaitGroup
	for range 8 {
		group.Go(func() {
			for range 200 {
				if got := check.Normal(p); !equal(got, want) || !check.Same(got, want) {
					t.Errorf("P13.3: %v", got)
					return
				}
				if a, b := checked(p), checked(bad); a != (result{}) || b != (result{12, api.ErrExists}) {
					t.Errorf("P13.2: %v and %v", a, b)
					return
				}
			}
		})
	}
	group.Wait()
}

// source reads numbers from bytes.
type source struct{ data []byte }

func (s *source) more() bool { return len(s.data) > 0 }

func (s *source) byte() int {
	if !s.more() {
		return 0
	}
	c := s.data[0]
	s.data = s.data[1:]
	return int(c)
}

// number returns a small number, a number around one of the bounds, or an extreme one.
func (s *source) number() int {
	c := s.byte()
	switch {
	case c < 128:
		return c
	case c < 128+len(extremes):
		return extremes[c-128]
	}
	return []int{0, 16, 27, 128, mostUses, latest}[c%6] + c/6%5 - 2
}

func (s *source) policy() api.Policy {
	p := api.Policy{Name: "p"}
	for s.more() && len(p.Types)+len(p.Rules)+len(p.Quorums) < 400 {
		switch s.byte() % 3 {
		case 0:
			p.Types = append(p.Types, api.Type{Name: string([]byte{byte(s.byte())}), Flags: s.number(), Life: s.number()})
		case 1:
			p.Rules = append(p.Rules, api.Rule{Kind: s.number(), A: s.number(), B: s.number()})
		case 2:
			p.Quorums = append(p.Quorums, api.Quorum{Command: s.number(), Count: s.number(), Delay: s.number(), Valid: s.number(), Uses: s.number()})
		}
	}
	return p
}

func FuzzCheck(f *testing.F) {
	f.Add("a", []byte{})
	f.Add("-", []byte{0, 'a', 127, 0, 0, 'b', 0, 1, 1, 1, 0, 1, 1, 5, 1, 1, 2, 3, 1, 0, 0, 1, 2, 27, 16, 0, 1, 1})
	f.Add("abcdefghijklm", []byte{0, 'a', 128, 0, 1, 1, 0, 0, 1, 1, 0, 0, 2, 24, 1, 0, 0, 1, 2, 3, 0, 0, 0, 0})
	f.Fuzz(func(t *testing.T, name string, data []byte) {
		isName(t, name)
		p := (&source{data}).policy()
		isChecked(t, p)
		p.Name = name
		isChecked(t, p)
	})
}
