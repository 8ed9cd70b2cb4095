package chart

import (
	"fmt"
	"math"
	"math/big"
	"slices"
	"testing"

	"graftwork/api"
)

// P10.6

// edges are numbers that a sum or a product may be just under, at or above Many by.
func edges() []int {
	return []int{0, 1, 2, 3, 1<<31 - 1, 1 << 31, 1<<31 + 1, 1<<61 - 1, 1 << 61, 1<<61 + 1, api.Many - 1, api.Many}
}

func TestPlusAndTimes(t *testing.T) {
	for _, a := range edges() {
		for _, b := range edges() {
			x, y := big.NewInt(int64(a)), big.NewInt(int64(b))
			want(t, fmt.Sprint("Plus of ", a, b), Plus(a, b), bounded(new(big.Int).Add(x, y)))
			want(t, fmt.Sprint("Times of ", a, b), Times(a, b), bounded(new(big.Int).Mul(x, y)))
		}
	}
	for _, c := range []struct{ a, b, plus, times int }{
		{0, 0, 0, 0},
		{1, 2, 3, 2},
		{7, 6, 13, 42},
		{api.Many, 0, api.Many, 0},
		{0, api.Many, api.Many, 0},
		{api.Many, 1, api.Many, api.Many},
		{api.Many - 1, 1, api.Many, api.Many - 1},
		{api.Many - 1, 2, api.Many, api.Many},
		{api.Many - 2, 1, api.Many - 1, api.Many - 2},
		{api.Many, api.Many, api.Many, api.Many},
		{1 << 31, 1 << 31, 1 << 32, api.Many},
		{1<<31 - 1, 1<<31 + 1, 1 << 32, api.Many - 1},
		{1<<31 + 1, 1<<31 + 1, 1<<32 + 2, api.Many},
		{1 << 32, 1 << 32, 1 << 33, api.Many},
		{3, api.Many / 3, api.Many/3 + 3, api.Many - 1},
		{3, api.Many/3 + 1, api.Many/3 + 4, api.Many},
		{1 << 40, 1 << 40, 1 << 41, api.Many},
	} {
		want(t, fmt.Sprint("Plus of ", c.a, c.b), Plus(c.a, c.b), c.plus)
		want(t, fmt.Sprint("Plus of ", c.b, c.a), Plus(c.b, c.a), c.plus)
		want(t, fmt.Sprint("Times of ", c.a, c.b), Times(c.a, c.b), c.times)
		want(t, fmt.Sprint("Times of ", c.b, c.a), Times(c.b, c.a), c.times)
	}
}

// P1: whatever they are given; of what they answer then, nothing is promised.
func TestPlusAndTimesOfNumbersOutside(t *testing.T) {
	odd := append(edges(), -1, -2, api.Many+1, -api.Many, math.MaxInt, math.MinInt, math.MinInt+1)
	for _, a := range odd {
		for _, b := range odd {
			Plus(a, b)
			Times(a, b)
		}
	}
}

// Grammars with just so many trees.

// The nonterminals of exactly: two has two trees with the empty word, first as many as are wanted, each next one a sixteenth of those.
const two, nothing, first = 1, 2, 3

// exactly answers a grammar of which the nonterminal first has just n trees, with the empty word: a digit of four bits a nonterminal. 0 has the rules that are handed in.
func exactly(n *big.Int, rules ...api.Rule) api.Grammar {
	g := api.Grammar{Vars: first + 1, Terms: 3, Rules: rules}
	g.Rules = append(g.Rules, rule(two), rule(two, nothing), rule(nothing))
	rest := new(big.Int).Set(n)
	for v := first; rest.Sign() > 0; v++ {
		g.Vars = v + 2
		for bit := range 4 {
			if rest.Bit(bit) == 1 {
				g.Rules = append(g.Rules, rule(v, slices.Repeat([]int{two}, bit)...))
			}
		}
		rest.Rsh(rest, 4)
		if rest.Sign() > 0 {
			g.Rules = append(g.Rules, rule(v, v+1, two, two, two, two))
		}
	}
	return g
}

func number(text string) *big.Int {
	n, _ := new(big.Int).SetString(text, 0)
	return n
}

// wanted: what is told where there are so many trees.
var wanted = map[string]int{
	"0":                      0,
	"1":                      1,
	"37":                     37,
	"0x7fffffff":             1<<31 - 1,
	"0x3ffffffffffffffe":     api.Many - 2,
	"0x3fffffffffffffff":     api.Many - 1,
	"0x4000000000000000":     api.Many,
	"0x4000000000000001":     api.Many,
	"0x7fffffffffffffff":     api.Many,
	"0x8000000000000000":     api.Many,
	"0xffffffffffffffff":     api.Many,
	"0x10000000000000000":    api.Many,
	"0x10000000000000005":    api.Many,
	"0x123456789abcdef01234": api.Many,
}

func TestJustSoMany(t *testing.T) {
	for text, n := range wanted {
		// The whole word.
		g := exactly(number(text), rule(0, -1, first, -1), rule(0, -2, 0, -2))
		c := lay(t, g, spell("00"))
		want(t, "Count of "+text, c.Count(), n)
		want(t, "Rule of "+text, c.Rule(0, 0, 2), n)
		want(t, "Split of "+text, c.Split(0, 0, 0, 1, 2), n)
		want(t, "Split in the middle of "+text, c.Split(0, 1, 1, 1, 2), n)
		want(t, "Split at the end of "+text, c.Split(0, 2, 1, 2, 2), 1)
		for i := range 3 {
			want(t, "Of the empty word of "+text, c.Of(first, i, i), n)
		}
		// A part of one.
		c = lay(t, g, spell("2002"))
		want(t, "Count of another word", c.Count(), 0)
		want(t, "Of a part, "+text, c.Of(0, 1, 3), n)
		want(t, "Rule of a part, "+text, c.Rule(0, 1, 3), n)
		want(t, "Split of a part, "+text, c.Split(0, 0, 1, 2, 3), n)
		want(t, "with something around it, "+text, lay(t, g, spell("11001111")[:6]).Count(), n)
		holdAgainst(t, g, spell("00"), dig(g, spell("00")).answer)
	}
}

// Sums and products of what is under Many.
func TestWhatPassesMany(t *testing.T) {
	half, root := number("0x2000000000000000"), number("0x80000000")
	for _, c := range []struct {
		n     *big.Int
		rules []api.Rule
		want  int
	}{
		{half, []api.Rule{rule(0, first)}, 1 << 61},
		{half, []api.Rule{rule(0, first), rule(0, first)}, api.Many},
		{half, []api.Rule{rule(0, first), rule(0, first), rule(0)}, api.Many},
		{number("0x1fffffffffffffff"), []api.Rule{rule(0, first), rule(0, first)}, api.Many - 2},
		{number("0x1fffffffffffffff"), []api.Rule{rule(0, first), rule(0), rule(0, first)}, api.Many - 1},
		{number("0x1fffffffffffffff"), []api.Rule{rule(0, first), rule(0, first), rule(0), rule(0)}, api.Many},
		{root, []api.Rule{rule(0, first, first)}, api.Many},
		{root, []api.Rule{rule(0, first, first, first)}, api.Many},
		{number("0x7fffffff"), []api.Rule{rule(0, first, first)}, (1<<31 - 1) * (1<<31 - 1)},
		{number("0x7fffffff"), []api.Rule{rule(0, first, first), rule(0, first, two)}, (1<<31-1)*(1<<31-1) + 1<<32 - 2},
		{number("0x7fffffff"), []api.Rule{rule(0, first, first), rule(0, first, two), rule(0)}, api.Many},
		{number("0x7fffffff"), []api.Rule{rule(0, slices.Repeat([]int{first}, 10)...)}, api.Many},
	} {
		g := exactly(c.n, c.rules...)
		chart := lay(t, g, nil)
		want(t, fmt.Sprint("trees of ", c.n, c.rules), chart.Count(), c.want)
		holdAgainst(t, g, nil, dig(g, nil).answer)
	}
}

// What passes Many on the way, while no tree is made of it.
func TestMoreThanManyOfNothing(t *testing.T) {
	for _, n := range []*big.Int{number("0x80000000"), number("0x4000000000000000"), number("0x8000000000000000")} {
		for _, r := range [][]int{
			{first, first, -2},
			{-2, first, first},
			{first, -2, first},
			{first, first, first, -1, -1},
			{-1, -1, first, first},
			{first, first, 0, -1},
			{0, first, first, -1},
			{first, first, -1, 0, first},
			{first, first, -3, first, first, first},
			{-2, first, first, -1, first, first},
		} {
			// Twice, so that the ways of 0 are a sum, too.
			g := exactly(n, rule(0, r...), rule(0, r...))
			c := lay(t, g, spell("0"))
			want(t, fmt.Sprint("trees of ", r), c.Count(), 0)
			want(t, fmt.Sprint("of the rule ", r), c.Rule(0, 0, 1)+c.Rule(1, 0, 1)+c.Split(0, 0, 0, 0, 1)+c.Split(0, 0, 0, 1, 1), 0)
			holdAgainst(t, g, spell("0"), dig(g, spell("0")).answer)
		}
	}
	// A sum that passes it, beside what has no tree.
	more := number("0x3fffffffffffffff")
	g := exactly(more)
	v, dead := g.Vars, g.Vars+1
	g.Vars += 2
	g.Rules = append(g.Rules, rule(v, first), rule(v, first), rule(v, first), rule(0, v, dead), rule(0, dead, v), rule(dead, dead, -1))
	c := lay(t, g, spell("00"))
	want(t, "the sum", c.Of(v, 1, 1), api.Many)
	want(t, "beside what has no tree", c.Count(), 0)
	holdAgainst(t, g, spell("00"), dig(g, spell("00")).answer)
}

// P1: the greatest grammars and words are counted, too, in time.
func TestGreatestGrammars(t *testing.T) {
	deep := api.Grammar{Vars: api.MaxVars, Terms: 1}
	for r := range api.MaxRules - 1 {
		v := r % (api.MaxVars - 1)
		right := make([]int, api.MaxRight)
		for k := range right {
			right[k] = max((r*7+k*5)%api.MaxVars, v+1)
		}
		deep.Rules = append(deep.Rules, rule(v, right...))
	}
	last := api.MaxVars - 1
	deep.Rules[api.MaxRules-2] = rule(last)
	deep.Rules = append(deep.Rules, rule(last, -1))
	w := make([]int, api.MaxWord)
	c := lay(t, deep, w)
	want(t, "the first one", c.Count(), api.Many)
	want(t, "the last one", c.Of(last, 3, 4), 1)
	for v := range api.MaxVars {
		c.Of(v, 0, api.MaxWord)
	}
	holdTogether(t, c, deep, api.MaxWord)
	// All of its nonterminals begin with all, and none may be empty.
	wide := api.Grammar{Vars: api.MaxVars, Terms: 1}
	for r := range api.MaxRules {
		v := r % api.MaxVars
		wide.Rules = append(wide.Rules, rule(v, (v+r)%api.MaxVars, (v*r+1)%api.MaxVars))
		if r < api.MaxVars {
			wide.Rules[r].Right = []int{-1}
		}
	}
	c = lay(t, wide, w)
	for v := range api.MaxVars {
		want(t, "a word of one", c.Of(v, 0, 1), 1)
	}
	holdTogether(t, c, wide, api.MaxWord)
	// One behind the other, down to the last.
	chain := api.Grammar{Vars: api.MaxVars, Terms: 1}
	for v := range api.MaxVars - 1 {
		chain.Rules = append(chain.Rules, rule(v, v+1), rule(v, v+1))
	}
	chain.Rules = append(chain.Rules, rule(last, 0, -1), rule(last))
	want(t, "63 choices", lay(t, chain, nil).Count(), api.Many)
	chain.Rules = chain.Rules[2:]
	chain.Start = 1
	want(t, "62 choices", lay(t, chain, nil).Count(), api.Many)
	chain.Start = 2
	want(t, "61 choices", lay(t, chain, nil).Count(), 1<<61)
}

// The trees of a word of as many terminals as it may have.
func TestLongAmbiguousWords(t *testing.T) {
	w := make([]int, api.MaxWord)
	for _, rules := range []string{
		"0 > 0 0; 0 > #0",
		"0 > 0 0 0; 0 > 0 0; 0 > #0; 0 > #0",
		"0 > 0 0 0 0 0 0 0 0 0 0; 0 > 0 0; 0 > 1 #0; 1 >; 1 > 0 #0",
		"0 > 1 1 1 1 1 1 1 1 1 1; 1 > 2; 1 > 2 2; 2 > #0; 2 >",
		"0 > 1 0 1 #0; 0 >; 1 > 0 0 #0; 1 > 2 2 2; 2 >; 2 > #0",
	} {
		g := read(3, rules)
		holdAgainst(t, g, w, dig(g, w).answer)
	}
}
