package chart

import (
	"fmt"
	"math"
	"math/rand"
	"reflect"
	"slices"
	"strconv"
	"strings"
	"testing"

	"graftwork/api"
)

func rule(left int, right ...int) api.Rule { return api.Rule{Left: left, Right: right} }

// read makes a grammar of rules as the document tells them: terminals (three) by #, `;` between the rules. It begins with 0.
func read(vars int, src string) api.Grammar {
	g := api.Grammar{Vars: vars, Terms: 3}
	for _, line := range strings.Split(src, ";") {
		words := strings.Fields(line)
		if len(words) == 0 {
			continue
		}
		left, _ := strconv.Atoi(words[0])
		r := rule(left)
		for _, w := range words[2:] {
			n, _ := strconv.Atoi(strings.TrimPrefix(w, "#"))
			if strings.HasPrefix(w, "#") {
				n = -1 - n
			}
			r.Right = append(r.Right, n)
		}
		g.Rules = append(g.Rules, r)
	}
	return g
}

// spell makes a word of its digits.
func spell(digits string) []int {
	var w []int
	for _, d := range digits {
		w = append(w, int(d-'0'))
	}
	return w
}

func brief(x any) string {
	s := fmt.Sprint(x)
	if len(s) > 300 {
		return s[:300] + ".."
	}
	return s
}

// lay answers a chart that is to have no fault.
func lay(t testing.TB, g api.Grammar, w []int) *Chart {
	t.Helper()
	c, f := New(g, w)
	if c == nil || f != (api.Fault{}) {
		t.Fatalf("New of %s, %v: chart %v, fault %v", brief(g), w, c != nil, f)
	}
	return c
}

// wantFault: it is told, and no chart.
func wantFault(t *testing.T, g api.Grammar, w []int, code, at int) {
	t.Helper()
	if c, f := New(g, w); c != nil || f != (api.Fault{Code: code, At: at}) {
		t.Errorf("New of %s, %s: chart %v, fault %v, want %v", brief(g), brief(w), c != nil, f, api.Fault{Code: code, At: at})
	}
}

func want(t *testing.T, what string, got, want int) {
	t.Helper()
	if got != want {
		t.Errorf("%s: %d, want %d", what, got, want)
	}
}

// P10.1: the faults of New.

func TestFaultsOfTheGrammar(t *testing.T) {
	fine := read(2, "0 > 1; 1 > #0")
	for _, c := range []struct {
		change   func(g *api.Grammar)
		code, at int
	}{
		{func(g *api.Grammar) { g.Vars = 0 }, api.ErrRange, -1},
		{func(g *api.Grammar) { g.Vars = api.MaxVars + 1 }, api.ErrRange, -1},
		{func(g *api.Grammar) { g.Terms = -1 }, api.ErrRange, -1},
		{func(g *api.Grammar) { g.Terms = api.MaxTerms + 1 }, api.ErrRange, -1},
		{func(g *api.Grammar) { g.Start = 2 }, api.ErrRange, -1},
		{func(g *api.Grammar) { g.Start = -1 }, api.ErrRange, -1},
		{func(g *api.Grammar) { g.Rules = make([]api.Rule, api.MaxRules+1) }, api.ErrMany, -1},
		{func(g *api.Grammar) { g.Rules[1].Right = make([]int, api.MaxRight+1) }, api.ErrMany, 1},
		{func(g *api.Grammar) { g.Rules[0].Left = 2 }, api.ErrRange, 0},
		{func(g *api.Grammar) { g.Rules[1].Right = []int{-4} }, api.ErrRange, 1},
		{func(g *api.Grammar) { g.Rules[1].Right = []int{2} }, api.ErrRange, 1},
	} {
		g := fine
		g.Rules = slices.Clone(fine.Rules)
		c.change(&g)
		wantFault(t, g, []int{0}, c.code, c.at)
		// It is told ahead of all that is wrong with the word.
		wantFault(t, g, make([]int, api.MaxWord+1), c.code, c.at)
		wantFault(t, g, []int{0, -1, 99}, c.code, c.at)
		// And ahead of what leads to itself alone.
		g.Rules = append(g.Rules, rule(0, 0))
		wantFault(t, g, nil, c.code, c.at)
	}
	lay(t, fine, []int{0})
}

func TestLongWords(t *testing.T) {
	g := read(1, "0 > #0 0; 0 >")
	for n := range api.MaxWord + 1 {
		want(t, "trees of a word of "+strconv.Itoa(n), lay(t, g, make([]int, n)).Count(), 1)
	}
	for _, n := range []int{1, 2, 100, 100000} {
		w := make([]int, api.MaxWord+n)
		wantFault(t, g, w, api.ErrWord, -1)
		// It is told ahead of a terminal that is none, wherever that stands.
		for _, at := range []int{0, api.MaxWord - 1, api.MaxWord, len(w) - 1} {
			w := slices.Clone(w)
			w[at] = -1
			wantFault(t, g, w, api.ErrWord, -1)
		}
		wantFault(t, read(1, "0 > 0"), w, api.ErrWord, -1)
	}
}

func TestTerminalsThatAreNone(t *testing.T) {
	round := read(1, "0 > 0")
	for _, odd := range []int{3, 4, 16, 99, -1, -2, -3, -4, math.MaxInt, math.MinInt} {
		wantFault(t, read(1, "0 > #0"), []int{odd}, api.ErrWord, 0)
		for at := range api.MaxWord {
			w := slices.Repeat([]int{2}, api.MaxWord)
			w[at] = odd
			wantFault(t, read(1, "0 > #0"), w, api.ErrWord, at)
			wantFault(t, round, w, api.ErrWord, at)
			// The first of several.
			w[api.MaxWord-1] = -7
			wantFault(t, read(1, "0 > #0"), w, api.ErrWord, at)
			w = slices.Repeat([]int{odd}, api.MaxWord-at)
			wantFault(t, round, w, api.ErrWord, 0)
		}
	}
	for terms := range api.MaxTerms + 1 {
		g := read(1, "0 >")
		g.Terms = terms
		lay(t, g, nil)
		for n := range terms {
			lay(t, g, []int{n})
		}
		wantFault(t, g, []int{terms}, api.ErrWord, 0)
		if terms > 0 {
			lay(t, g, []int{terms - 1, 0, terms - 1})
			wantFault(t, g, []int{terms - 1, terms}, api.ErrWord, 1)
		}
	}
}

func TestWhatLeadsToItselfAlone(t *testing.T) {
	for _, rules := range []string{
		"0 > 0",
		"0 > #0; 0 > 0",
		"0 > 1; 1 > 0",
		"0 > #0; 0 > 1; 1 > 2; 2 > 3; 3 > 0",
		"3 > 2; 2 > 1; 1 > 0; 0 > 3",
		"0 > 0 1; 1 >",
		"0 > 1 0; 1 >",
		"0 > 1 0 2; 1 >; 2 > 1 1; 2 > #0",
		"0 > 0 0; 0 >",
		"0 > 0 0; 0 > #0; 0 >",
		"0 > 1 2; 1 > 3 0; 2 >; 3 >; 0 > #0",
		"0 > 0 1; 0 >; 1 > 0 1",
		// It has no tree.
		"0 > #0; 0 > 1 #0; 1 > 1",
		"0 > #0 1; 1 > 2; 2 > 1",
		// Start does not come to it.
		"0 > #0; 1 > 1",
		"0 > #0; 1 > 1; 1 > #1",
		"0 > #0; 1 > 2; 2 > 3 1; 3 >",
		"0 >; 3 > 3",
	} {
		for _, w := range []string{"", "0", "1", "0000", "012012012012"} {
			wantFault(t, read(4, rules), spell(w), api.ErrRound, -1)
		}
	}
	for _, rules := range []string{
		"",
		"0 >",
		"0 > 0 #0",
		"0 > #0 0",
		"0 > #0 0; 0 >",
		"0 > 0 0",
		"0 > 0 0; 0 > #0",
		"0 > 0 1",
		"0 > 0 1; 1 > 0 1",
		"0 > 0 1; 1 > #0",
		"0 > 1 0 1; 1 > #0; 0 >",
		"0 > 1 0 2; 1 >",
		"0 > 1 2; 1 > 0 3; 2 >",
		"0 > 1; 1 > 2; 2 > 3",
		"0 > 1 1; 1 > 2 2; 2 > 3 3; 3 >",
	} {
		lay(t, read(4, rules), nil)
	}
}

// P10.2 to P10.5: what is counted.

func TestCounts(t *testing.T) {
	for _, c := range []struct {
		vars  int
		rules string
		words map[string]int
	}{
		// With one tree, and with none.
		{1, "", map[string]int{"": 0, "0": 0}},
		{1, "0 >", map[string]int{"": 1, "0": 0}},
		{1, "0 > #0", map[string]int{"": 0, "0": 1, "1": 0, "00": 0}},
		{1, "0 > #0 #1 #2", map[string]int{"": 0, "012": 1, "01": 0, "0122": 0, "021": 0, "12": 0}},
		{2, "0 > 1", map[string]int{"": 0, "0": 0}},
		{1, "0 > 0 #0", map[string]int{"": 0, "0": 0, "00": 0}},
		{2, "0 > 1 1; 1 > #0", map[string]int{"0": 0, "00": 1, "000": 0}},
		// Rules that are the same are two.
		{1, "0 >; 0 >", map[string]int{"": 2, "0": 0}},
		{2, "0 > 1; 0 > 1; 1 > #0; 1 > #0; 1 > #0", map[string]int{"0": 6}},
		// It begins with itself, ends with itself, both.
		{1, "0 > 0 #0; 0 > #1", map[string]int{"1": 1, "10": 1, "1000": 1, "": 0, "0": 0, "11": 0, "100000000000": 1}},
		{1, "0 > 0 #0; 0 >", map[string]int{"": 1, "0": 1, "000000000000": 1, "010": 0}},
		{1, "0 > #0 0; 0 > #1", map[string]int{"1": 1, "01": 1, "0001": 1, "0010": 0}},
		{1, "0 > #0 0; 0 > 0 #0; 0 > #0", map[string]int{"0": 1, "00": 2, "000": 4, "000000000000": 2048}},
		{1, "0 > 0 0; 0 > #0", map[string]int{"": 0, "0": 1, "00": 1, "000": 2, "0000": 5, "000000000000": 58786}},
		{1, "0 > 0 0 0; 0 > #0", map[string]int{"0": 1, "00": 0, "000": 1, "00000": 3, "0000000": 12, "00000000000": 273}},
		{1, "0 > 0 #1 0; 0 > #0", map[string]int{"0": 1, "010": 1, "01010": 2, "0101010": 5, "01010101010": 42, "0110": 0}},
		{2, "0 > 1 0; 0 >; 1 > 0 #0", map[string]int{"": 1, "0": 1, "00": 2, "000": 5, "0000": 14}},
		// Hidden behind what may be empty.
		{2, "0 > 1 0 #0; 0 > #1; 1 >", map[string]int{"1": 1, "10": 1, "100": 1}},
		{2, "0 > 1 0 #0; 0 > #1; 1 >; 1 > #0", map[string]int{"1": 1, "010": 1, "00100": 1, "0100": 2, "01000": 3}},
		{3, "0 > 0 1; 0 >; 1 > 0 2; 1 > 2; 2 > #0", map[string]int{"": 1, "0": 2, "00": 6, "000": 22, "0000": 90}},
		{2, "0 > 0 1; 1 > 0 1", map[string]int{"": 0, "0": 0}},
		{2, "0 > 0 1; 1 > 1 0; 0 > #0", map[string]int{"0": 1, "00": 0}},
		// In a rule twice, with only one of them empty.
		{2, "0 > 1 1; 1 >; 1 > #0", map[string]int{"": 1, "0": 2, "00": 1, "000": 0}},
		{2, "0 > 1 1 1; 1 >; 1 > #0", map[string]int{"": 1, "0": 3, "00": 3, "000": 1}},
		{2, "0 > 1 #1 1; 1 >; 1 > #0", map[string]int{"1": 1, "01": 1, "10": 1, "010": 1, "0": 0}},
		{2, "0 > 1 1 1 1 1 1 1 1 1 1; 1 >; 1 > #0", map[string]int{"": 1, "0": 10, "00": 45, "00000": 252, "0000000000": 1, "00000000000": 0}},
		// The empty word, in several ways.
		{3, "0 > 1 2; 1 >; 1 > 2; 2 >; 2 >", map[string]int{"": 6, "0": 0}},
		{3, "0 >; 0 > 1; 0 > 2 1; 1 > 2 2; 2 >", map[string]int{"": 3}},
	} {
		for w, n := range c.words {
			want(t, c.rules+" of the word "+w, lay(t, read(c.vars, c.rules), spell(w)).Count(), n)
		}
	}
}

// It begins with Start, whichever that is.
func TestCountBeginsWithStart(t *testing.T) {
	g := read(3, "0 > #0; 1 > 0; 1 > #0; 2 > 1; 2 > 0; 2 > #0")
	for start, n := range []int{1, 2, 4} {
		g.Start = start
		c := lay(t, g, []int{0})
		want(t, "Count", c.Count(), n)
		want(t, "Of", c.Of(2, 0, 1), 4)
	}
}

// The document's example, part by part.
func TestExamples(t *testing.T) {
	g := read(1, "0 > 0 0; 0 > #0")
	want(t, "a a a", lay(t, g, spell("000")).Count(), 2)
	c := lay(t, g, spell("0000"))
	want(t, "a a a a", c.Count(), 5)
	for i := range 5 {
		for j := i; j <= 4; j++ {
			want(t, fmt.Sprint("Of ", i, j), c.Of(0, i, j), []int{0, 1, 1, 2, 5}[j-i])
			want(t, fmt.Sprint("Rule 0 ", i, j), c.Rule(0, i, j), []int{0, 0, 1, 2, 5}[j-i])
			want(t, fmt.Sprint("Rule 1 ", i, j), c.Rule(1, i, j), []int{0, 1, 0, 0, 0}[j-i])
		}
	}
	for m, n := range []int{0, 2, 1, 2, 0} {
		want(t, fmt.Sprint("Split at ", m), c.Split(0, 0, 0, m, 4), n)
		want(t, fmt.Sprint("Split of what is behind at ", m), c.Split(0, 1, m, 4, 4), []int{5, 2, 1, 1, 0}[m])
	}
	want(t, "Split of a terminal", c.Split(1, 0, 2, 3, 3), 1)
	want(t, "Split of a terminal that is too short", c.Split(1, 0, 2, 2, 3), 0)
	wantFault(t, read(2, "0 > #0; 1 > 1"), nil, api.ErrRound, -1)
	turned := read(2, "0 > #1; 0 > #1 1; 1 > #0; 1 > #0 1")
	want(t, "b a a", lay(t, turned, spell("100")).Count(), 1)
}

func TestSplitsInTheMiddleOfARule(t *testing.T) {
	// 1 has one tree of each word of 0s up to two.
	c := lay(t, read(2, "0 > #1 1 1 #1; 1 >; 1 > #0; 1 > #0 #0"), spell("10001"))
	want(t, "all", c.Count(), 2)
	want(t, "the first", c.Split(0, 0, 0, 1, 5), 2)
	want(t, "the first, for nothing", c.Split(0, 0, 0, 0, 5), 0)
	want(t, "the first, for too much", c.Split(0, 0, 0, 2, 5), 0)
	for m, n := range []int{0, 0, 1, 1, 0, 0} {
		want(t, fmt.Sprint("the second, as far as ", m), c.Split(0, 1, 1, m, 5), n)
	}
	for m := range 6 {
		want(t, fmt.Sprint("the second from 2 on, as far as ", m), c.Split(0, 1, 2, m, 5), []int{0, 0, 1, 1, 1, 0}[m])
		want(t, fmt.Sprint("the third from 2 on, as far as ", m), c.Split(0, 2, 2, m, 5), []int{0, 0, 0, 0, 1, 0}[m])
		want(t, fmt.Sprint("what ends too early, as far as ", m), c.Split(0, 1, 2, m, 4), 0)
	}
	want(t, "the last", c.Split(0, 3, 4, 5, 5), 1)
	want(t, "the last, where it does not stand", c.Split(0, 3, 3, 4, 4), 0)
	want(t, "the last, where it stands first", c.Split(0, 3, 0, 1, 1), 1)
	want(t, "the last, with more behind it", c.Split(0, 3, 0, 1, 2), 0)
}

// Numbers just under and at their ends, below 0, and far outside.
func TestNumbersOutside(t *testing.T) {
	g := read(3, "0 > 1 2; 1 > #0; 2 > #0; 2 >; 0 > #0 #0; 0 >")
	c := lay(t, g, spell("00"))
	want(t, "Of", c.Of(2, 1, 2), 1)
	want(t, "Of the empty word", c.Of(2, 2, 2), 1)
	want(t, "Rule", c.Rule(5, 2, 2), 1)
	want(t, "Split", c.Split(4, 1, 1, 2, 2), 1)
	odd := []int{-1, -2, math.MinInt, math.MinInt + 1, math.MaxInt, math.MaxInt - 1, 64, 160}
	for _, n := range append(odd, 3) {
		want(t, fmt.Sprint("Of the nonterminal ", n), c.Of(n, 0, 0), 0)
		want(t, fmt.Sprint("from ", n), c.Of(2, n, 2)+c.Rule(3, n, 2)+c.Rule(5, n, n)+c.Split(0, 0, n, 2, 2), 0)
		want(t, fmt.Sprint("to ahead of ", n), c.Of(2, 2, n)+c.Rule(3, 2, n)+c.Of(2, n, n)+c.Split(0, 0, 0, 1, n), 0)
		want(t, fmt.Sprint("as far as ", n), c.Split(0, 0, 0, n, 2)+c.Split(0, 1, 0, n, 2)+c.Split(0, 1, n, n, n), 0)
	}
	for _, n := range append(odd, 6) {
		want(t, fmt.Sprint("the rule ", n), c.Rule(n, 0, 0)+c.Rule(n, 0, 2)+c.Split(n, 0, 0, 1, 2)+c.Split(n, 0, 0, 0, 0), 0)
	}
	for _, n := range append(odd, 2) {
		want(t, fmt.Sprint("the symbol ", n), c.Split(0, n, 0, 1, 2)+c.Split(4, n, 2, 2, 2)+c.Split(0, n, 0, 0, 0), 0)
	}
	// A rule without symbols has none to be split at.
	for _, r := range []int{3, 5} {
		for k := -1; k <= 1; k++ {
			want(t, "of a rule without symbols", c.Split(r, k, 0, 0, 0)+c.Split(r, k, 0, 1, 1)+c.Split(r, k, 2, 2, 2), 0)
		}
	}
	// i above j, and m outside.
	want(t, "i above j", c.Of(2, 2, 1)+c.Of(0, 1, 0)+c.Rule(5, 2, 1)+c.Rule(3, 1, 0)+c.Split(0, 1, 2, 1, 1)+c.Split(0, 1, 2, 2, 1), 0)
	want(t, "m below i", c.Split(0, 1, 1, 0, 1)+c.Split(2, 0, 1, 0, 2)+c.Split(4, 1, 1, 0, 2), 0)
	want(t, "m above j", c.Split(2, 0, 0, 1, 0)+c.Split(0, 0, 0, 1, 0)+c.Split(4, 0, 0, 2, 1), 0)
	// 64 nonterminals and 160 rules: the last ones are there, the next ones not.
	big := api.Grammar{Vars: api.MaxVars, Terms: api.MaxTerms}
	for range api.MaxRules {
		big.Rules = append(big.Rules, rule(api.MaxVars-1, slices.Repeat([]int{-api.MaxTerms}, api.MaxRight)...))
	}
	c = lay(t, big, slices.Repeat([]int{api.MaxTerms - 1}, api.MaxWord))
	want(t, "the last nonterminal", c.Of(63, 2, 12), 160)
	want(t, "the last rule", c.Rule(159, 0, 10), 1)
	want(t, "the last symbol", c.Split(159, 9, 11, 12, 12), 1)
	want(t, "the next ones", c.Of(64, 2, 12)+c.Rule(160, 0, 10)+c.Split(159, 10, 12, 12, 12)+c.Split(160, 9, 11, 12, 12)+c.Of(63, 3, 13), 0)
}

// What holds everywhere.

// questions answers all that may be asked of a chart, and what stands around it.
func questions(g api.Grammar, n int) []question {
	all := []question{{kind: "Count"}}
	for i := -1; i <= n+1; i++ {
		for j := -1; j <= n+1; j++ {
			for v := -1; v <= g.Vars; v++ {
				all = append(all, question{kind: "Of", v: v, i: i, j: j})
			}
			for r := -1; r <= len(g.Rules); r++ {
				all = append(all, question{kind: "Rule", r: r, i: i, j: j})
			}
			for m := -1; m <= n+1; m++ {
				all = append(all, splits(g, i, m, j)...)
			}
		}
	}
	return all
}

func splits(g api.Grammar, i, m, j int) (all []question) {
	all = append(all, question{kind: "Split", r: -1, i: i, m: m, j: j}, question{kind: "Split", r: len(g.Rules), i: i, m: m, j: j})
	for r := range g.Rules {
		for k := -1; k <= len(g.Rules[r].Right); k++ {
			all = append(all, question{"Split", 0, r, k, i, m, j})
		}
	}
	return all
}

type question struct {
	kind             string
	v, r, k, i, m, j int
}

func (q question) ask(c *Chart) int {
	switch q.kind {
	case "Count":
		return c.Count()
	case "Of":
		return c.Of(q.v, q.i, q.j)
	case "Rule":
		return c.Rule(q.r, q.i, q.j)
	}
	return c.Split(q.r, q.k, q.i, q.m, q.j)
}

func askAll(c *Chart, qs []question) []int {
	var out []int
	for _, q := range qs {
		out = append(out, q.ask(c))
	}
	return out
}

func ordinary() (api.Grammar, []int) {
	return read(4, "0 > 0 1 2; 0 > #0; 1 > 3 #1 3; 1 > #1; 2 > 2 #0; 2 >; 3 >; 3 > #1; 0 > 2 #0 3"), spell("01010")
}

// Whatever is asked ahead, and however often.
func TestOrderOfQuestions(t *testing.T) {
	g, w := ordinary()
	qs := questions(g, len(w))
	first := make([]int, len(qs))
	for i, q := range qs {
		first[i] = q.ask(lay(t, g, w))
	}
	r := rand.New(rand.NewSource(1))
	for range 20 {
		c := lay(t, g, w)
		for _, i := range r.Perm(len(qs)) {
			want(t, fmt.Sprint(qs[i]), qs[i].ask(c), first[i])
		}
		if !slices.Equal(askAll(c, qs), first) || !slices.Equal(askAll(c, qs), first) {
			t.Fatal("asked again: others")
		}
	}
}

// One chart knows nothing of another one.
func TestChartsBesideOneAnother(t *testing.T) {
	g, w := ordinary()
	a, b := lay(t, g, w), lay(t, g, spell("00"))
	n := lay(t, g, w).Count()
	m := lay(t, g, spell("00")).Count()
	for range 2 {
		want(t, "the one", a.Count(), n)
		want(t, "the other one", b.Count(), m)
	}
	if n == m || n == 0 {
		t.Errorf("they should be others: %d, %d", n, m)
	}
}

// Neither the grammar nor the word is kept: nothing was asked by the time that they are written to.
func TestNothingIsKept(t *testing.T) {
	for _, change := range []func(g *api.Grammar, w []int){
		func(g *api.Grammar, w []int) { clear(w) },
		func(g *api.Grammar, w []int) { clear(g.Rules) },
		func(g *api.Grammar, w []int) { g.Rules[1], g.Rules[5] = g.Rules[5], g.Rules[1] },
		func(g *api.Grammar, w []int) { g.Vars, g.Terms, g.Start, g.Rules = 1, 0, 3, nil },
		func(g *api.Grammar, w []int) {
			for i, r := range g.Rules {
				g.Rules[i].Left = 3
				for k := range r.Right {
					r.Right[k] = 99
				}
			}
		},
	} {
		g, w := ordinary()
		qs := questions(g, len(w))
		before := askAll(lay(t, g, w), qs)
		c, half := lay(t, g, w), lay(t, g, w)
		askAll(half, qs[:len(qs)/2])
		change(&g, w)
		if !slices.Equal(askAll(c, qs), before) || !slices.Equal(askAll(half, qs), before) {
			t.Error("what is counted became something else")
		}
	}
}

// roomy lays the lists anew, with something behind the length of each.
func roomy(g api.Grammar, w []int, odd int) (api.Grammar, []int) {
	lengthen := func(l []int) []int {
		long := append(slices.Clone(l), odd, odd, odd)
		return long[:len(l)]
	}
	rules := make([]api.Rule, 0, len(g.Rules)+2)
	for _, r := range g.Rules {
		rules = append(rules, api.Rule{Left: r.Left, Right: lengthen(r.Right)})
	}
	rules[:cap(rules)][len(rules)] = rule(0, odd)
	g.Rules = rules
	return g, lengthen(w)
}

// memory tells all that lies in the lists, behind their lengths, too.
func memory(g api.Grammar, w []int) []int {
	out := []int{g.Vars, g.Terms, g.Start, len(g.Rules), len(w)}
	out = append(out, w[:cap(w)]...)
	for _, r := range g.Rules[:cap(g.Rules)] {
		out = append(out, r.Left, len(r.Right))
		out = append(out, r.Right[:cap(r.Right)]...)
	}
	return out
}

func TestNothingIsChanged(t *testing.T) {
	plain, word := ordinary()
	qs := questions(plain, len(word))
	wanted := askAll(lay(t, plain, word), qs)
	for odd := -4; odd <= 4; odd++ {
		g, w := roomy(plain, word, odd)
		before := memory(g, w)
		if !slices.Equal(askAll(lay(t, g, w), qs), wanted) {
			t.Errorf("what lies behind the lists is read: %d", odd)
		}
		if !reflect.DeepEqual(memory(g, w), before) {
			t.Errorf("it was changed: %v, want %v", memory(g, w), before)
		}
		// Nor where there is a fault.
		w[0] = 3
		before = memory(g, w)
		wantFault(t, g, w, api.ErrWord, 0)
		if !reflect.DeepEqual(memory(g, w), before) {
			t.Errorf("it was changed: %v, want %v", memory(g, w), before)
		}
	}
}

// A list without elements is the same, nil or empty.
func TestEmptyLists(t *testing.T) {
	for _, w := range [][]int{nil, {}} {
		for _, right := range [][]int{nil, {}} {
			c := lay(t, api.Grammar{Vars: 1, Rules: []api.Rule{{Right: right}}}, w)
			want(t, "Count", c.Count(), 1)
			want(t, "Rule", c.Rule(0, 0, 0), 1)
			want(t, "Split", c.Split(0, 0, 0, 0, 0), 0)
		}
		for _, rules := range [][]api.Rule{nil, {}} {
			want(t, "Count", lay(t, api.Grammar{Vars: 1, Rules: rules}, w).Count(), 0)
		}
	}
}
