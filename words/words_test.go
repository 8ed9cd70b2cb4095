package words

import (
	"fmt"
	"math"
	"reflect"
	"slices"
	"strconv"
	"strings"
	"testing"

	"graftwork/api"
	"graftwork/gram"
)

func rule(left int, right ...int) api.Rule { return api.Rule{Left: left, Right: right} }

// read makes a grammar of rules as the document tells them: terminals (three) by #, `;` between the rules. It begins with 0.
func read(vars int, src string) api.Grammar {
	g := api.Grammar{Vars: vars, Terms: 3}
	for _, line := range strings.Split(src, ";") {
		words := strings.Fields(line)
		if len(words) == 0 {
			continue
		}
		left, _ := strconv.Atoi(words[0])
		r := rule(left)
		for _, w := range words[2:] {
			n, _ := strconv.Atoi(strings.TrimPrefix(w, "#"))
			if strings.HasPrefix(w, "#") {
				n = -1 - n
			}
			r.Right = append(r.Right, n)
		}
		g.Rules = append(g.Rules, r)
	}
	return g
}

// tell tells words, each by a digit or a letter of each terminal, the empty one by -.
func tell(list [][]int) string {
	var out []string
	for _, w := range list {
		s := ""
		for _, t := range w {
			s += strconv.FormatInt(int64(t), 36)
		}
		if len(w) == 0 {
			s = "-"
		}
		out = append(out, s)
	}
	return strings.Join(out, " ")
}

func brief(x any) string {
	s := fmt.Sprint(x)
	if len(s) > 300 {
		return s[:300] + ".."
	}
	return s
}

func fault(code, at int) api.Fault { return api.Fault{Code: code, At: at} }

func wantWords(t *testing.T, g api.Grammar, most int, want string) {
	t.Helper()
	list, f := List(g, most)
	if got := tell(list); f != (api.Fault{}) || got != want {
		t.Fatalf("List of %s, %d: %s, fault %v, want %s", brief(g), most, brief(got), f, brief(want))
	}
}

func wantCount(t *testing.T, g api.Grammar, most, want int) {
	t.Helper()
	if list, f := List(g, most); f != (api.Fault{}) || len(list) != want {
		t.Fatalf("List of %s, %d: %d words, fault %v, want %d", brief(g), most, len(list), f, want)
	}
}

// wantFault: it is told, and no list with it.
func wantFault(t *testing.T, g api.Grammar, most, code, at int) {
	t.Helper()
	if list, f := List(g, most); list != nil || f != fault(code, at) {
		t.Fatalf("List of %s, %d: %s, fault %v, want %v", brief(g), most, brief(list), f, fault(code, at))
	}
}

// P12.1: all words of Start, in the order.

func TestWords(t *testing.T) {
	for _, c := range []struct {
		rules string
		most  int
		want  string
	}{
		// None: no rules, no rule of Start, no rule that ends, none that is short enough.
		{"", 0, ""},
		{"", 6, ""},
		{"1 > #0", 6, ""},
		{"0 > 1; 2 > #0", 6, ""},
		{"0 > #0 1; 0 > 1 1; 1 > 2; 2 > 1 #0", 6, ""},
		{"0 > 0 #0", 6, ""},
		{"0 > #0 0", 6, ""},
		{"0 > 0 0", 6, ""},
		{"0 > #0", 0, ""},
		{"0 > #0 #1", 1, ""},
		{"0 > #0 #0 #0 #0 #0 #0 #0", 6, ""},
		{"0 > 1 1; 1 > #0 #0 #0 #0", 6, ""},
		// The empty word.
		{"0 >", 0, "-"},
		{"0 >", 6, "-"},
		{"0 >; 0 > #0", 0, "-"},
		{"0 >; 0 > #0", 1, "- 0"},
		{"0 > #0; 0 >", 6, "- 0"},
		{"0 > 1 1 1; 1 > 2 2; 2 >", 3, "-"},
		{"0 > 1 2; 1 >; 2 > #0", 0, ""},
		{"0 > 1 2; 1 >; 2 > #0", 1, "0"},
		{"0 > 1 2; 1 >; 2 > #0; 2 >; 1 > #1", 0, "-"},
		{"0 > 1 2; 1 >; 2 > #0; 2 >; 1 > #1", 1, "- 0 1"},
		{"0 > 1 2; 1 >; 2 > #0; 2 >; 1 > #1", 2, "- 0 1 10"},
		// Terminals alone, in any order of rules.
		{"0 > #2; 0 > #0; 0 > #1", 6, "0 1 2"},
		{"0 > #2 #0; 0 > #0 #2; 0 > #1; 0 > #0 #0 #0; 0 >", 6, "- 1 02 20 000"},
		{"0 > #2 #0; 0 > #0 #2; 0 > #1; 0 > #0 #0 #0; 0 >", 2, "- 1 02 20"},
		{"0 > #0 #1 #2 #0 #1 #2", 6, "012012"},
		{"0 > #0 #1 #2 #0 #1 #2", 5, ""},
		// The shorter first, then by the terminals from the left.
		{"0 > #1; 0 > #0 #0", 6, "1 00"},
		{"0 > #2 #2; 0 > #2; 0 > #0 #0 #0", 6, "2 22 000"},
		{"0 > #1 #0 #0; 0 > #0 #2 #2; 0 > #0 #2 #1; 0 > #1 #0", 6, "10 021 022 100"},
		{"0 > 1 1; 1 > #1; 1 > #0", 6, "00 01 10 11"},
		{"0 > 1 2; 1 > #0; 1 > #1 #1; 2 > #1; 2 > #0 #0", 6, "01 000 111 1100"},
		{"0 > 1 2; 1 > #0; 1 > #0 #0; 2 > #0; 2 > #1", 6, "00 01 000 001"},
		{"0 > 1; 0 > #0 #0; 1 > #1; 1 > 2; 2 > #0 #1", 6, "1 00 01"},
		// What begins, ends or both with itself.
		{"0 > 0 #0; 0 > #1", 6, "1 10 100 1000 10000 100000"},
		{"0 > #1; 0 > 0 #0", 3, "1 10 100"},
		{"0 > #0 0; 0 > #1", 4, "1 01 001 0001"},
		{"0 > #0 0 #1; 0 >", 6, "- 01 0011 000111"},
		{"0 > #0 0 #1; 0 >", 5, "- 01 0011"},
		{"0 > #0 0 #0; 0 > #1 0 #1; 0 >; 0 > #0; 0 > #1", 4, "- 0 1 00 11 000 010 101 111 0000 0110 1001 1111"},
		{"0 > #0 0; 0 > #1 0; 0 >", 2, "- 0 1 00 01 10 11"},
		{"0 > #0 1; 1 > #1 0; 0 > #2", 6, "2 012 01012"},
		// No word twice: rules that are the same, several trees, trees without end.
		{"0 > #0; 0 > #0; 0 > 1; 1 > #0", 6, "0"},
		{"0 > 0 0; 0 > #0", 6, "0 00 000 0000 00000 000000"},
		{"0 > 1 1; 1 > #0; 1 > #0 #0", 6, "00 000 0000"},
		{"0 > 0 0 0; 0 > #0; 0 > #1 #1", 3, "0 11 000"},
		{"0 > 0; 0 > #0", 6, "0"},
		{"0 > 0; 0 >; 0 > #1", 6, "- 1"},
		{"0 > 0 0; 0 >; 0 > #0", 3, "- 0 00 000"},
		{"0 > 1; 1 > 2; 2 > 0; 1 > #1; 2 > #0; 2 > #2 #2", 6, "0 1 22"},
		{"0 > 1 0 1; 1 >; 0 > #0; 1 > #1", 3, "0 01 10 011 101 110"},
		{"0 > 0 1 0; 1 > 0; 0 >; 1 > #2", 3, "- 2 22 222"},
		// One that has no words beside one that has some; one that Start does not come to.
		{"0 > 1 2; 0 > #0; 1 > #1", 6, "0"},
		{"0 > 2 1; 0 > #0; 1 > #1; 2 > 2 #0", 6, "0"},
		{"0 > 1; 1 > #1; 2 > #0", 6, "1"},
		{"0 > 1; 1 > 3; 2 > #0; 3 > #1; 2 > 1", 6, "1"},
		// Rules ahead of those that they hang on.
		{"0 > 1 1; 1 > 2 #0; 2 > 3; 3 > #1; 3 >", 6, "00 010 100 1010"},
		{"3 > #1; 3 >; 2 > 3; 1 > 2 #0; 0 > 1 1", 6, "00 010 100 1010"},
		// Beginnings that are too long, where what stands behind is short, and the other way round.
		{"0 > 1 2; 1 > #0; 1 > #0 #0 #0; 2 > #1 #1; 2 > #2", 3, "02 011"},
		{"0 > 1 2; 1 > #0; 1 > #0 #0 #0; 2 > #1 #1; 2 > #2", 4, "02 011 0002"},
		{"0 > 1 2; 2 > #0; 2 > #0 #0 #0; 1 > #1 #1; 1 > #2", 3, "20 110"},
		{"0 > 1 2 1; 1 > #0; 1 > #1 #1; 2 >; 2 > #2 #2", 4, "00 011 110 0220 1111"},
	} {
		wantWords(t, read(4, c.rules), c.most, c.want)
	}
}

func TestExamplesOfTheDocument(t *testing.T) {
	g := read(2, "0 > #1; 0 > #1 1; 1 > #0; 1 > #0 1")
	wantWords(t, g, 6, "1 10 100 1000 10000 100000")
	wantWords(t, read(1, "0 > 0 #0; 0 > #1"), 6, "1 10 100 1000 10000 100000")
}

func TestEachStart(t *testing.T) {
	g := read(4, "0 > #0 1; 1 > #1; 1 > #2 2; 2 >; 2 > 0")
	for start, want := range []string{"01 02 0201 0202", "1 2 201 202", "- 01 02 0201 0202", ""} {
		g.Start = start
		wantWords(t, g, 4, want)
	}
}

// All numbers of terminals, as far as they may be asked for, and no further.
func TestMost(t *testing.T) {
	g := read(1, "0 > #0 0; 0 > #1 0; 0 >")
	for most := range api.MaxLong + 1 {
		wantCount(t, g, most, 1<<(most+1)-1)
	}
	for _, most := range []int{-1, -2, api.MaxLong + 1, api.MaxLong + 2, api.MaxWord, math.MaxInt, math.MaxInt - 1, math.MinInt, math.MinInt + 1, 1 << 32, -1 << 32} {
		wantFault(t, g, most, api.ErrRange, -1)
		wantFault(t, read(1, ""), most, api.ErrRange, -1)
		wantFault(t, api.Grammar{Vars: 1}, most, api.ErrRange, -1)
	}
}

func TestWithoutTerminals(t *testing.T) {
	for _, most := range []int{0, 1, api.MaxLong} {
		for rules, want := range map[string]string{
			"":                           "",
			"0 >":                        "-",
			"0 > 0":                      "",
			"0 > 0; 0 >":                 "-",
			"0 > 1 1; 1 >":               "-",
			"0 > 1 2; 1 >":               "",
			"0 > 0 0; 0 > 1; 1 >; 1 > 0": "-",
			"1 >":                        "",
		} {
			g := read(3, rules)
			g.Terms = 0
			wantWords(t, g, most, want)
		}
	}
}

func TestAllTerminals(t *testing.T) {
	g := api.Grammar{Vars: 1, Terms: api.MaxTerms}
	for n := range api.MaxTerms {
		g.Rules = append(g.Rules, rule(0, -api.MaxTerms+n))
	}
	wantWords(t, g, 1, "0 1 2 3 4 5 6 7 8 9 a b c d e f")
	g = api.Grammar{Vars: 1, Terms: api.MaxTerms}
	for _, w := range []string{"ffffff", "0", "00", "f", "f00000", "0fffff", "1", "9a", "ef", "fe", "000000", "00000", "fffff"} {
		g.Rules = append(g.Rules, ruleOf(0, w))
	}
	wantWords(t, g, 6, "0 1 f 00 9a ef fe 00000 fffff 000000 0fffff f00000 ffffff")
	wantWords(t, g, 5, "0 1 f 00 9a ef fe 00000 fffff")
}

// ruleOf makes a rule of the terminals of a word, as tell tells it.
func ruleOf(left int, w string) api.Rule {
	r := rule(left)
	for _, c := range w {
		n, _ := strconv.ParseInt(string(c), 36, 64)
		r.Right = append(r.Right, -1-int(n))
	}
	return r
}

// Rules of as many symbols as may be.
func TestLongRules(t *testing.T) {
	full := func(symbols ...int) []int {
		return slices.Concat(slices.Repeat([]int{1}, api.MaxRight-len(symbols)), symbols)
	}
	for _, c := range []struct {
		right []int
		rules string
		most  int
		want  string
	}{
		{full(), "1 >", 6, "-"},
		{full(), "1 >; 1 > #0", 6, "- 0 00 000 0000 00000 000000"},
		{full(), "1 > #0", 6, ""},
		{full(-1), "1 >; 1 > #1", 3, "0 10 110"},
		{full(-1, -2, -3, -1, -2, -3), "1 >; 1 > #0", 6, "012012"},
		{full(-1, -2, -3, -1, -2, -3), "1 >; 1 > #0", 5, ""},
		{full(-1, -2, -3, -1, -2), "1 >; 1 > #1", 6, "01201 101201"},
		{full(-1, -2, -3, -1, -2, -3, -1), "1 >", 6, ""},
		{slices.Repeat([]int{-1}, api.MaxRight), "1 >", 6, ""},
		{full(2), "1 >; 2 > #0", 6, "0"},
		{full(2), "1 >; 1 > #0", 6, ""},
		{full(0), "1 >; 0 > #0", 6, "0"},
		{full(0, 0), "1 >; 0 > #0", 3, "0 00 000"},
	} {
		g := read(3, c.rules)
		g.Rules = append(g.Rules, rule(0, c.right...))
		wantWords(t, g, c.most, c.want)
		slices.Reverse(g.Rules)
		wantWords(t, g, c.most, c.want)
	}
}

// As many nonterminals and rules as may be.
func TestGreatestGrammars(t *testing.T) {
	// A row of nonterminals, each one the next one or a terminal; the last ones begin, so that words come up from the end.
	for _, turned := range []bool{false, true} {
		g := api.Grammar{Vars: api.MaxVars, Terms: api.MaxTerms}
		for v := range api.MaxVars - 1 {
			g.Rules = append(g.Rules, rule(v, v+1), rule(v, -1-v%api.MaxTerms))
		}
		g.Rules = append(g.Rules, rule(api.MaxVars-1, -1, -1))
		for len(g.Rules) < api.MaxRules {
			g.Rules = append(g.Rules, rule(api.MaxVars-1))
		}
		if turned {
			slices.Reverse(g.Rules)
		}
		wantWords(t, g, 6, "- 0 1 2 3 4 5 6 7 8 9 a b c d e f 00")
		g.Start = api.MaxVars - 1
		wantWords(t, g, 6, "- 00")
	}
	// Each nonterminal leads to itself alone, round all of them; the words are those of one terminal, up to six times.
	ring := api.Grammar{Vars: api.MaxVars, Terms: 1, Start: 7}
	for v := range api.MaxVars {
		ring.Rules = append(ring.Rules, rule(v, (v+1)%api.MaxVars))
	}
	for len(ring.Rules) < api.MaxRules-1 {
		v := len(ring.Rules) % api.MaxVars
		ring.Rules = append(ring.Rules, rule(v, v, 0, v, 0, v, 0, v, 0, v, 0))
	}
	ring.Rules = append(ring.Rules, rule(40, -1))
	wantWords(t, ring, 6, "0")
	ring.Rules[len(ring.Rules)-2] = rule(9, -1, 33)
	wantWords(t, ring, 6, "0 00 000 0000 00000 000000")
	ring.Rules[len(ring.Rules)-1] = rule(63)
	wantWords(t, ring, 6, "- 0 00 000 0000 00000 000000")
	// One rule too many, or one symbol.
	for _, most := range []int{-1, 0, 6, 7} {
		more := ring
		more.Rules = append(slices.Clone(ring.Rules), rule(0))
		wantFault(t, more, most, api.ErrMany, -1)
		more.Rules = slices.Clone(ring.Rules)
		more.Rules[11] = rule(0, make([]int, api.MaxRight+1)...)
		wantFault(t, more, most, api.ErrMany, 11)
	}
}

// ErrMany: of a nonterminal's words.

// exactly makes rules by which v has n words (from 273 to 528) of at most three terminals, of sixteen; w and w + 1 are nonterminals that it takes.
func exactly(v, w, n int) []api.Rule {
	rules := []api.Rule{rule(v), rule(v, w), rule(v, w+1), rule(w+1, w, w)}
	for t := range api.MaxTerms {
		rules = append(rules, rule(w, -1-t))
	}
	n -= 1 + api.MaxTerms + api.MaxTerms*api.MaxTerms
	for ; n >= api.MaxTerms; n -= api.MaxTerms {
		rules = append(rules, rule(v, -1-n/api.MaxTerms, -1, w))
	}
	for k := range n {
		rules = append(rules, rule(v, -1, -2, -1-k))
	}
	return rules
}

func TestJustAsManyWords(t *testing.T) {
	for _, n := range []int{273, 299, api.MaxWords} {
		g := api.Grammar{Vars: 3, Terms: api.MaxTerms, Rules: exactly(0, 1, n)}
		for _, most := range []int{3, 4, api.MaxLong} {
			wantCount(t, g, most, n)
		}
	}
	for _, n := range []int{api.MaxWords + 1, api.MaxWords + 2, 400, 528} {
		g := api.Grammar{Vars: 3, Terms: api.MaxTerms, Rules: exactly(0, 1, n)}
		for _, most := range []int{3, 4, api.MaxLong} {
			wantFault(t, g, most, api.ErrMany, -1)
		}
		// One terminal fewer, and it has all of two.
		wantCount(t, g, 2, 273)
		wantCount(t, g, 1, 17)
		wantCount(t, g, 0, 1)
	}
}

// Whichever nonterminal it is that has so many.
func TestWhoHasTooMany(t *testing.T) {
	for _, c := range []struct {
		what  string
		start int
		rules string
		words int // of Start, where the nonterminal 1 has just as many as may be
	}{
		{"Start", 1, "", api.MaxWords},
		{"Start comes to it, alone", 0, "0 > 1", api.MaxWords},
		{"Start comes to it, by others", 0, "0 > 4; 4 > 5; 5 > #0 1 #0", api.MaxWords},
		{"Start comes to it, but to no word with it", 0, "0 > #0; 0 > 1 4", 1},
		{"Start comes to it, but to none that is as short", 0, "0 > #0; 0 > #1; 0 > 1 #0 #0 #0 #0 #0 #0 #0", 2},
		{"Start does not come to it", 0, "0 > #0; 0 > 4; 4 > #1 #1", 2},
		{"Start has no word", 0, "", 0},
		{"Start has the empty word alone", 0, "0 >", 1},
		{"it stands beside Start", 0, "0 > #2; 4 > 0 1", 1},
	} {
		g := read(6, c.rules)
		g.Terms, g.Start = api.MaxTerms, c.start
		rules := g.Rules
		for _, turned := range []bool{false, true} {
			for n := api.MaxWords; n <= api.MaxWords+1; n++ {
				g.Rules = slices.Concat(rules, exactly(1, 2, n))
				if turned {
					slices.Reverse(g.Rules)
				}
				if _, f := List(g, 2); f.Code != 0 {
					t.Errorf("%s: fault %v of words of two terminals", c.what, f)
				}
				if n == api.MaxWords {
					wantCount(t, g, api.MaxLong, c.words)
				} else {
					wantFault(t, g, 3, api.ErrMany, -1)
					wantFault(t, g, api.MaxLong, api.ErrMany, -1)
				}
			}
		}
	}
}

// Words that a nonterminal has of another one, which has just as many as may be.
func TestWordsOfAnotherOne(t *testing.T) {
	g := api.Grammar{Vars: 6, Terms: api.MaxTerms, Rules: append(exactly(1, 2, api.MaxWords), rule(0, 1))}
	wantCount(t, g, 6, api.MaxWords)
	g.Rules[len(g.Rules)-1] = rule(0, -1, 1, -2)
	wantCount(t, g, 6, api.MaxWords)
	wantCount(t, g, 5, api.MaxWords)
	wantCount(t, g, 4, 273)
	wantCount(t, g, 3, 17)
	g.Rules[len(g.Rules)-1] = rule(0, 1, 4)
	g.Rules = append(g.Rules, rule(4))
	wantCount(t, g, 6, api.MaxWords)
	g.Rules = append(g.Rules, rule(0, -1, -3, -16))
	wantFault(t, g, 6, api.ErrMany, -1)
	g.Start = 5
	wantFault(t, g, 6, api.ErrMany, -1)
}

// Words that are many only by one terminal more than is asked.
func TestManyByOneTerminalMore(t *testing.T) {
	for _, c := range []struct{ terms, most, words int }{
		{3, 4, 121}, {4, 3, 85}, {5, 3, 156}, {6, 3, 259}, {7, 2, 57}, {16, 2, 273},
	} {
		g := api.Grammar{Vars: 1, Terms: c.terms, Rules: []api.Rule{rule(0)}}
		for s := range c.terms {
			g.Rules = append(g.Rules, rule(0, -1-s, 0))
		}
		wantCount(t, g, c.most, c.words)
		wantFault(t, g, c.most+1, api.ErrMany, -1)
		wantFault(t, g, api.MaxLong, api.ErrMany, -1)
		// From the other end, and from both.
		g.Rules = []api.Rule{rule(0), rule(0, 0, 0)}
		for s := range c.terms {
			g.Rules = append(g.Rules, rule(0, -1-s))
		}
		wantCount(t, g, c.most, c.words)
		wantFault(t, g, c.most+1, api.ErrMany, -1)
	}
}

// Beginnings of a rule may be too many, where the rule has no words, or few.
func TestManyBeginnings(t *testing.T) {
	letters := exactly(3, 1, 273)[3:]
	for _, c := range []struct {
		rules string
		most  int
		words int // -1: too many
	}{
		{"0 > 1 1 1 4", 6, 0},
		{"0 > 1 1 1 1 1 1 4", 6, 0},
		{"0 > 4 1 1 1 1 1 1", 6, 0},
		{"0 > 1 1 1 #0 #0 #0 #0", 6, 0},
		{"0 > 1 1 1 #0", 3, 0},
		{"0 > 1 1 1 1 1 1 1", 6, 0},
		{"0 > 1 1 1 #0", 4, -1},
		{"0 > 1 1 1 5; 5 > #0; 5 >", 3, -1},
		{"0 > 1 1 1 5; 5 > #0; 5 > #1", 3, 0},
		{"0 > 5 1 1 5; 5 > #0; 5 >", 2, 256},
		{"0 > 5 1 1 5; 5 >", 3, 256},
		{"0 > 5 1 1 5; 5 > #0; 5 >", 3, -1},
		{"0 > 1 1 5; 5 > #0", 6, 256},
		{"0 > 5 1 1; 5 > #0", 6, 256},
		{"0 > 1 1 5; 5 > #0; 5 > #1", 6, -1},
		{"0 > 1 1 5; 5 > #0; 5 > #1 #0 #0 #0 #0", 6, 256},
		{"0 > 1 5 1; 5 > #0; 5 > #1 #0 #0 #0 #0", 7, -2},
	} {
		g := read(6, c.rules)
		g.Terms, g.Rules = api.MaxTerms, append(g.Rules, letters...)
		switch c.words {
		case -2:
			wantFault(t, g, c.most, api.ErrRange, -1)
		case -1:
			wantFault(t, g, c.most, api.ErrMany, -1)
		default:
			wantCount(t, g, c.most, c.words)
		}
	}
}

// The faults of gram.Check, ahead of the others.

// wrong are changes that make a right grammar of two nonterminals, three terminals and two rules a wrong one.
var wrong = []struct {
	change   func(g *api.Grammar)
	code, at int
}{
	{func(g *api.Grammar) { g.Vars = 0 }, api.ErrRange, -1},
	{func(g *api.Grammar) { g.Vars = math.MinInt }, api.ErrRange, -1},
	{func(g *api.Grammar) { g.Vars = api.MaxVars + 1 }, api.ErrRange, -1},
	{func(g *api.Grammar) { g.Vars = math.MaxInt }, api.ErrRange, -1},
	{func(g *api.Grammar) { g.Terms = -1 }, api.ErrRange, -1},
	{func(g *api.Grammar) { g.Terms = api.MaxTerms + 1 }, api.ErrRange, -1},
	{func(g *api.Grammar) { g.Terms = math.MinInt }, api.ErrRange, -1},
	{func(g *api.Grammar) { g.Terms = math.MaxInt }, api.ErrRange, -1},
	{func(g *api.Grammar) { g.Start = 2 }, api.ErrRange, -1},
	{func(g *api.Grammar) { g.Start = -1 }, api.ErrRange, -1},
	{func(g *api.Grammar) { g.Rules = make([]api.Rule, api.MaxRules+1) }, api.ErrMany, -1},
	{func(g *api.Grammar) { g.Rules[1].Right = make([]int, api.MaxRight+1) }, api.ErrMany, 1},
	{func(g *api.Grammar) { g.Rules[0].Left = 2 }, api.ErrRange, 0},
	{func(g *api.Grammar) { g.Rules[0].Left = -1 }, api.ErrRange, 0},
	{func(g *api.Grammar) { g.Rules[1].Left = math.MinInt }, api.ErrRange, 1},
	{func(g *api.Grammar) { g.Rules[1].Right = []int{-4} }, api.ErrRange, 1},
	{func(g *api.Grammar) { g.Rules[1].Right = []int{0, 2} }, api.ErrRange, 1},
	{func(g *api.Grammar) { g.Rules[1].Right = []int{math.MaxInt} }, api.ErrRange, 1},
	{func(g *api.Grammar) { g.Rules[1].Right = []int{math.MinInt} }, api.ErrRange, 1},
}

func TestFaultsOfTheGrammar(t *testing.T) {
	fine := read(2, "0 > 1; 1 > #0")
	// By these, 1 has too many words.
	star := read(2, "1 > #0 1; 1 > #1 1; 1 > #2 1; 1 >").Rules
	wantWords(t, fine, 6, "0")
	for _, c := range wrong {
		for _, rules := range [][]api.Rule{nil, star, {rule(0, 0)}, {rule(0, 99)}, {rule(-5)}} {
			g := fine
			g.Rules = slices.Clone(fine.Rules)
			c.change(&g)
			g.Rules = append(g.Rules, rules...)
			if f := gram.Check(g); f != fault(c.code, c.at) {
				t.Fatalf("gram.Check of %s: %v, want %v", brief(g), f, fault(c.code, c.at))
			}
			for _, most := range []int{0, 3, api.MaxLong, -1, api.MaxLong + 1, math.MinInt, math.MaxInt} {
				wantFault(t, g, most, c.code, c.at)
			}
		}
	}
}

func TestFaultOfMostComesFirst(t *testing.T) {
	g := read(2, "1 > #0 1; 1 > #1 1; 1 > #2 1; 1 >; 0 > 1")
	wantCount(t, g, 4, 121)
	for start := range 2 {
		g.Start = start
		wantFault(t, g, 5, api.ErrMany, -1)
		wantFault(t, g, api.MaxLong, api.ErrMany, -1)
		for _, most := range []int{-1, math.MinInt, api.MaxLong + 1, math.MaxInt} {
			wantFault(t, g, most, api.ErrRange, -1)
		}
	}
	// A rule of one symbol too many, a most too great and too many words.
	g.Rules = append(g.Rules, rule(0, make([]int, api.MaxRight+1)...))
	for _, most := range []int{-1, 0, 5, api.MaxLong, api.MaxLong + 1} {
		wantFault(t, g, most, api.ErrMany, 5)
	}
	g.Rules[5] = rule(0, 2)
	for _, most := range []int{-1, 0, 5, api.MaxLong, api.MaxLong + 1} {
		wantFault(t, g, most, api.ErrRange, 5)
	}
}

// What holds everywhere.

func samples() []api.Grammar {
	return []api.Grammar{
		read(1, "0 > 0 #0; 0 > #1; 0 > #2 #2"),
		read(2, "0 > 1 1; 1 > #0; 1 >; 1 > #1; 0 > 0"),
		read(3, "0 > #0 0 #1; 0 >; 0 > 1; 1 > 2 #2; 2 > 1; 2 >"),
		read(1, "0 > #0; 0 > #1; 0 > #2; 0 > 0 0 0; 0 > #0 #0"),
	}
}

// apart: no two lists share memory, not even behind their lengths.
func apart[T any](t *testing.T, all [][]T) {
	t.Helper()
	seen := map[*T]bool{}
	for _, l := range all {
		l = l[:cap(l)]
		for i := range l {
			if seen[&l[i]] {
				t.Fatalf("two lists share memory")
			}
			seen[&l[i]] = true
		}
	}
}

func TestAnswersAreNew(t *testing.T) {
	for _, g := range samples() {
		one, _ := List(g, 4)
		two, _ := List(g, 4)
		want := tell(one)
		if len(one) < 4 || tell(two) != want {
			t.Fatalf("%s, then %s", want, tell(two))
		}
		var rights [][]int
		for _, r := range g.Rules {
			rights = append(rights, r.Right)
		}
		apart(t, [][][]int{one, two})
		apart(t, slices.Concat(one, two, rights))
		// What is done to an answer, changes none that comes behind it.
		for _, w := range one {
			w = w[:cap(w)]
			for i := range w {
				w[i] = 77
			}
		}
		clear(one[:cap(one)])
		three, _ := List(g, 4)
		if tell(two) != want || tell(three) != want {
			t.Errorf("%s, then %s and %s", want, tell(two), tell(three))
		}
		// What is put behind a word, touches no other one.
		for _, w := range two {
			_ = append(w, 77, 77, 77)
		}
		if tell(two) != want {
			t.Errorf("%s, then %s", want, tell(two))
		}
	}
}

// behind answers a list like l with other things behind its length.
func behind[T any](l []T, what ...T) []T {
	return append(append([]T(nil), l...), what...)[:len(l)]
}

func ownRules(rules []api.Rule) []api.Rule {
	rules = slices.Clone(rules)
	for r := range rules {
		rules[r].Right = slices.Clone(rules[r].Right[:cap(rules[r].Right)])
	}
	return rules
}

func TestWhatIsHandedInStays(t *testing.T) {
	for _, g := range samples() {
		list, _ := List(g, 3)
		want := tell(list)
		// What lies behind the lengths would make a difference.
		for r := range g.Rules {
			g.Rules[r].Right = behind(g.Rules[r].Right, -1, -2, 0)
		}
		g.Rules = behind(g.Rules, rule(0, -3, -3, -3), rule(0, -2, -3), rule(99))
		rules := g.Rules[:cap(g.Rules)]
		kept, asked := ownRules(rules), g
		wantWords(t, g, 3, want)
		if _, f := List(g, 6); f.Code != 0 && f.Code != api.ErrMany {
			t.Errorf("fault %v", f)
		}
		wantFault(t, g, 7, api.ErrRange, -1)
		if !reflect.DeepEqual(ownRules(rules), kept) || !reflect.DeepEqual(g, asked) {
			t.Errorf("%v was changed: %v", kept, rules)
		}
		// What was answered does not hang on what is done to the grammar by then.
		list, _ = List(g, 3)
		for r := range rules {
			rules[r].Left = 77
			for k := range rules[r].Right {
				rules[r].Right[k] = 77
			}
		}
		if tell(list) != want {
			t.Errorf("%s, want %s", tell(list), want)
		}
	}
}

// Nothing is kept from call to call: not of another grammar, not of a fault.
func TestAskedByTurns(t *testing.T) {
	many := read(1, "0 > #0 0; 0 > #1 0; 0 > #2 0; 0 >")
	for range 3 {
		for most, want := range []string{"", "1 2", "1 2 10 20 22", "1 2 10 20 22 100 200 220"} {
			wantFault(t, many, 5, api.ErrMany, -1)
			wantWords(t, read(1, "0 > 0 #0; 0 > #1; 0 > #2; 0 > #2 #2"), most, want)
			wantFault(t, many, 7, api.ErrRange, -1)
			wantWords(t, read(1, "0 > #0; 0 > 0"), most, []string{"", "0", "0", "0"}[most])
		}
	}
}

// Empty lists and none are the same.
func TestEmptyLists(t *testing.T) {
	for _, none := range [][]int{nil, {}} {
		g := api.Grammar{Vars: 1, Rules: []api.Rule{{Right: none}}}
		wantWords(t, g, 0, "-")
		wantWords(t, g, 6, "-")
		g.Rules = g.Rules[:0]
		wantWords(t, g, 6, "")
		g.Rules = nil
		wantWords(t, g, 6, "")
	}
}
