package forest

import (
	"fmt"
	"math"
	"reflect"
	"slices"
	"strconv"
	"strings"
	"testing"

	"graftwork/api"
	"graftwork/chart"
	"graftwork/tree"
)

func rule(left int, right ...int) api.Rule { return api.Rule{Left: left, Right: right} }

// read makes a grammar of rules as the document tells them: terminals (three) by #, `;` between the rules. It begins with 0.
func read(vars int, src string) api.Grammar {
	g := api.Grammar{Vars: vars, Terms: 3}
	for _, line := range strings.Split(src, ";") {
		words := strings.Fields(line)
		if len(words) == 0 {
			continue
		}
		left, _ := strconv.Atoi(words[0])
		r := rule(left)
		for _, w := range words[2:] {
			n, _ := strconv.Atoi(strings.TrimPrefix(w, "#"))
			if strings.HasPrefix(w, "#") {
				n = -1 - n
			}
			r.Right = append(r.Right, n)
		}
		g.Rules = append(g.Rules, r)
	}
	return g
}

// spell makes a word of its digits.
func spell(digits string) []int {
	var w []int
	for _, d := range digits {
		w = append(w, int(d-'0'))
	}
	return w
}

// show tells a tree as the document does: 0(1 0(1 1)).
func show(t api.Tree) string {
	if len(t.Kids) == 0 {
		return strconv.Itoa(t.Rule)
	}
	return strconv.Itoa(t.Rule) + "(" + strings.Join(showAll(t.Kids), " ") + ")"
}

func showAll(list []api.Tree) (out []string) {
	for _, t := range list {
		out = append(out, show(t))
	}
	return out
}

func node(rule int, kids ...api.Tree) api.Tree { return api.Tree{Rule: rule, Kids: kids} }

func brief(x any) string {
	s := fmt.Sprint(x)
	if len(s) > 300 {
		return s[:300] + ".."
	}
	return s
}

func fault(code, at int) api.Fault { return api.Fault{Code: code, At: at} }

func wantList(t *testing.T, g api.Grammar, w []int, want []api.Tree) {
	t.Helper()
	list, f := List(g, w)
	if f != (api.Fault{}) || !slices.Equal(showAll(list), showAll(want)) {
		t.Fatalf("List of %s, %v: %s, fault %v, want %s", brief(g), w, brief(showAll(list)), f, brief(showAll(want)))
	}
}

func wantAt(t *testing.T, g api.Grammar, w []int, k int, want api.Tree) {
	t.Helper()
	if got, f := At(g, w, k); f != (api.Fault{}) || show(got) != show(want) {
		t.Fatalf("At %d of %s, %v: %s, fault %v, want %s", k, brief(g), w, brief(show(got)), f, brief(show(want)))
	}
}

func wantRank(t *testing.T, g api.Grammar, x api.Tree, want int) {
	t.Helper()
	if k, f := Rank(g, x); f != (api.Fault{}) || k != want {
		t.Fatalf("Rank of %s, %s: %d, fault %v, want %d", brief(g), brief(show(x)), k, f, want)
	}
}

// With a fault, no tree and no number is answered.

func faultOfList(t *testing.T, g api.Grammar, w []int, code, at int) {
	t.Helper()
	if list, f := List(g, w); len(list) != 0 || f != fault(code, at) {
		t.Errorf("List of %s, %s: %d trees, fault %v, want %v", brief(g), brief(w), len(list), f, fault(code, at))
	}
}

func faultOfAt(t *testing.T, g api.Grammar, w []int, k, code, at int) {
	t.Helper()
	if x, f := At(g, w, k); x.Rule != 0 || len(x.Kids) != 0 || f != fault(code, at) {
		t.Errorf("At %d of %s, %s: %s, fault %v, want %v", k, brief(g), brief(w), brief(show(x)), f, fault(code, at))
	}
}

func faultOfRank(t *testing.T, g api.Grammar, x api.Tree, code, at int) {
	t.Helper()
	if k, f := Rank(g, x); k != 0 || f != fault(code, at) {
		t.Errorf("Rank of %s: %d, fault %v, want %v", brief(g), k, f, fault(code, at))
	}
}

// noNumbers are numbers that no tree has where there are n, and n is below Many.
func noNumbers(n int) []int {
	return []int{-1, -2, math.MinInt, math.MinInt + 1, n, n + 1, api.Many - 1, api.Many, api.Many + 1, math.MaxInt - 1, math.MaxInt}
}

// wantTrees: a word has these trees, in this order, by List, by At and by Rank.
func wantTrees(t *testing.T, g api.Grammar, w []int, want []api.Tree) {
	t.Helper()
	wantList(t, g, w, want)
	for k, x := range want {
		wantAt(t, g, w, k, x)
		wantRank(t, g, x, k)
	}
	for _, k := range noNumbers(len(want)) {
		faultOfAt(t, g, w, k, api.ErrRange, -1)
	}
}

// P11.1 to P11.3: the order.

func TestOrder(t *testing.T) {
	for _, c := range []struct {
		rules, word string
		want        string // the trees, `, ` between them
	}{
		// No tree.
		{"", "", ""},
		{"", "0", ""},
		{"0 > #0", "1", ""},
		{"0 > #0", "", ""},
		{"0 >", "0", ""},
		{"0 > 0 0; 0 > #1", "1101", ""},
		{"0 > 1 2; 1 > #0; 2 > 2 #1", "01", ""},
		// One.
		{"0 >", "", "0"},
		{"0 > #0", "0", "0"},
		{"1 > #0; 0 > 1", "0", "1(0)"},
		{"0 > 0 #0; 0 > #1", "100", "0(0(1))"},
		{"0 > #1; 0 > #1 1; 1 > #0; 1 > #0 1", "100", "1(3(2))"},
		{"0 > 1 2 3; 1 > #0; 2 >; 3 > #1", "01", "0(1 2 3)"},
		// The lower rule first, whatever stands in it.
		{"0 > #0; 0 > #0; 0 > #0", "0", "0, 1, 2"},
		{"0 >; 0 >", "", "0, 1"},
		{"0 > #0; 0 > 1; 1 > #0", "0", "0, 1(2)"},
		{"0 > 1; 1 > #0; 0 > #0; 1 > #0", "0", "0(1), 0(3), 2"},
		{"1 > #0; 0 > 1; 1 > #0; 0 > 2; 2 > #0; 0 > 1", "0", "1(0), 1(2), 3(4), 5(0), 5(2)"},
		{"0 > 1 1; 1 > #0; 0 > 1 #0; 0 > #0 1; 0 > #0 #0", "00", "0(1 1), 2(1), 3(1), 4"},
		// The shorter word of the first tree first, whatever its rule.
		{"0 > 1 1; 1 > #0 #0; 1 > #0; 1 >", "00", "0(3 1), 0(2 2), 0(1 3)"},
		{"0 > 1 1; 1 >; 1 > #0; 1 > #0 #0", "00", "0(1 3), 0(2 2), 0(3 1)"},
		{"0 > 1 2; 2 > #0; 1 > #0; 1 > #0 #0; 2 > #0 #0", "000", "0(2 4), 0(3 1)"},
		{"0 > 1 2; 1 > #0 #0; 1 > #0; 2 > #0; 2 > #0 #0", "000", "0(2 4), 0(1 3)"},
		// That of a later one, where those ahead are the same; the trees ahead, where they are others of one length.
		{"0 > 1 2 2; 1 > #0; 1 > #0; 2 > #0 #0; 2 > #0; 2 >", "000", "0(1 5 3), 0(1 4 4), 0(1 3 5), 0(2 5 3), 0(2 4 4), 0(2 3 5)"},
		{"0 > 1 1 2 2; 1 > #0; 2 > #0 #0; 2 >", "0000", "0(1 1 3 2), 0(1 1 2 3)"},
		{"0 > 1 1 1; 1 > #0; 1 >", "0", "0(2 2 1), 0(2 1 2), 0(1 2 2)"},
		{"0 > 1 1 1; 1 > #0; 1 >", "00", "0(2 1 1), 0(1 2 1), 0(1 1 2)"},
		// A tree of one length: the first one that is another, the ones behind it last.
		{"0 > 1 2; 1 > #0; 1 > #0; 2 > #1; 2 > #1; 2 > #1", "01", "0(1 3), 0(1 4), 0(1 5), 0(2 3), 0(2 4), 0(2 5)"},
		{"0 > 1 1; 1 >; 1 >; 1 >", "", "0(1 1), 0(1 2), 0(1 3), 0(2 1), 0(2 2), 0(2 3), 0(3 1), 0(3 2), 0(3 3)"},
		{"0 > 1 1 1; 1 > #0; 1 > #0", "000", "0(1 1 1), 0(1 1 2), 0(1 2 1), 0(1 2 2), 0(2 1 1), 0(2 1 2), 0(2 2 1), 0(2 2 2)"},
		// By this order in turn, not by rules alone: below 1 and 2 the shorter word comes first, too.
		{"0 > 1; 1 > 2 2; 2 > #0 #0; 2 > #0", "000", "0(1(3 2)), 0(1(2 3))"},
		{"0 > 2 1; 1 > #0; 1 > #0; 2 > 3 3; 3 > #0 #0; 3 >", "000", "0(3(5 4) 1), 0(3(5 4) 2), 0(3(4 5) 1), 0(3(4 5) 2)"},
		{"0 > 0 0; 0 > #0", "000", "0(1 0(1 1)), 0(0(1 1) 1)"},
		{"0 > 0 0; 0 > #0", "0000", "0(1 0(1 0(1 1))), 0(1 0(0(1 1) 1)), 0(0(1 1) 0(1 1)), 0(0(1 0(1 1)) 1), 0(0(0(1 1) 1) 1)"},
		{"0 > #0; 0 > 0 0", "0000", "1(0 1(0 1(0 0))), 1(0 1(1(0 0) 0)), 1(1(0 0) 1(0 0)), 1(1(0 1(0 0)) 0), 1(1(1(0 0) 0) 0)"},
		{"0 > 0 #0; 0 > #0 0; 0 > #0", "000", "0(0(2)), 0(1(2)), 1(0(2)), 1(1(2))"},
		// Terminals ahead of, between and behind nonterminals.
		{"0 > #1 1 #0 1 #1; 1 >; 1 > #0", "1001", "0(1 2), 0(2 1)"},
		{"0 > #1 1 #0 1 #1; 1 > #0; 1 >", "1001", "0(2 1), 0(1 2)"},
		{"0 > #0 #1 1 #2 2 #1; 1 > #2; 1 > #2; 2 > #0; 2 > #0", "012201", "0(1 3), 0(1 4), 0(2 3), 0(2 4)"},
		{"0 > #0 1; 0 > 1 #0; 1 > 2 #0 2; 2 >; 2 > #0", "000", "0(2(3 4)), 0(2(4 3)), 1(2(3 4)), 1(2(4 3))"},
		{"0 > 1 #0; 1 > #0; 1 > #0 #0", "000", "0(2)"},
		{"0 > #0 1 #0; 1 > #0; 1 > #0", "000", "0(1), 0(2)"},
		{"0 > 1 #1 #1 1; 1 > #1; 1 >; 1 > #1 #1", "1111", "0(2 3), 0(1 1), 0(3 2)"},
		// What may be empty, at the beginning, in the midst, at the end.
		{"0 > 1 2; 1 >; 1 > #0; 2 > #0; 2 >", "0", "0(1 3), 0(2 4)"},
		{"0 > 1 2; 1 > #0; 1 >; 2 >; 2 > #0", "0", "0(2 4), 0(1 3)"},
		{"0 > 1 2; 1 >; 1 > 2; 2 >; 2 >", "", "0(1 3), 0(1 4), 0(2(3) 3), 0(2(3) 4), 0(2(4) 3), 0(2(4) 4)"},
		{"0 > 1 #0 1; 1 > 2; 2 >; 1 >", "0", "0(1(2) 1(2)), 0(1(2) 3), 0(3 1(2)), 0(3 3)"},
		{"0 > 1 0 #0; 0 > #1; 1 > #0; 1 >", "0100", "0(3 0(2 1)), 0(2 0(3 1))"},
		// What Start does not come to, has no tree or goes on without end makes no difference.
		{"3 > #0; 0 > #0; 2 > 3; 0 > 1 #0; 1 > 1 #0; 0 > 2", "0", "1, 5(2(0))"},
		{"0 > 0 1; 1 > 0 1; 0 > #0; 0 > #0", "0", "2, 3"},
		{"0 > 0 0 1; 0 > 1 0; 0 > #0; 1 > #0", "000", "0(2 2 3), 1(3 1(3 2))"},
	} {
		g := read(4, c.rules)
		list, f := List(g, spell(c.word))
		if got := strings.Join(showAll(list), ", "); got != c.want || f != (api.Fault{}) {
			t.Errorf("%s of the word %s: %s, fault %v, want %s", c.rules, c.word, got, f, c.want)
			continue
		}
		wantTrees(t, g, spell(c.word), list)
	}
}

func TestBeginsWithStart(t *testing.T) {
	g := read(3, "0 > #0; 1 > 0; 1 > #0; 2 > 1; 2 > 0; 2 > #0")
	a, b, c := node(0), node(1, node(0)), node(2)
	for start, want := range [][]api.Tree{{a}, {b, c}, {node(3, b), node(3, c), node(4, a), node(5)}} {
		g.Start = start
		wantTrees(t, g, []int{0}, want)
		for other := range 3 {
			h := g
			h.Start = other
			if other != start {
				faultOfRank(t, h, want[0], api.ErrTree, -1)
			}
		}
	}
}

// A rule of as many symbols as it may have, words of as many terminals, the last nonterminal, terminal and rule.
func TestGreatestNumbers(t *testing.T) {
	last, none := api.MaxVars-1, api.MaxVars-2
	g := api.Grammar{Vars: api.MaxVars, Terms: api.MaxTerms, Start: last}
	for range api.MaxRules - 4 {
		g.Rules = append(g.Rules, rule(none-1, last))
	}
	g.Rules = append(g.Rules, rule(last, slices.Repeat([]int{none}, api.MaxRight)...), rule(none, -api.MaxTerms, -api.MaxTerms), rule(none), rule(none, -api.MaxTerms))
	w := slices.Repeat([]int{api.MaxTerms - 1}, api.MaxWord)
	n := lay(t, g, w).Count()
	if n < 1000 {
		t.Fatalf("only %d trees", n)
	}
	faultOfList(t, g, w, api.ErrMany, -1)
	kids := slices.Repeat([]api.Tree{node(158)}, 4)
	kids = append(kids, slices.Repeat([]api.Tree{node(157)}, 6)...)
	wantAt(t, g, w, 0, node(156, kids...))
	wantRank(t, g, node(156, kids...), 0)
	slices.Reverse(kids)
	wantAt(t, g, w, n-1, node(156, kids...))
	wantRank(t, g, node(156, kids...), n-1)
	faultOfAt(t, g, w, n, api.ErrRange, -1)
	w = slices.Repeat([]int{api.MaxTerms - 1}, 2)
	list, _ := List(g, w)
	if len(list) != 10+45 {
		t.Fatalf("%d trees", len(list))
	}
	wantTrees(t, g, w, list)
	wantRising(t, g, list)
}

// The faults of chart.New, for List and for At.

func faultOfBoth(t *testing.T, g api.Grammar, w []int, code, at int) {
	t.Helper()
	if _, f := chart.New(g, w); f != fault(code, at) {
		t.Errorf("chart.New of %s, %s: %v, want %v", brief(g), brief(w), f, fault(code, at))
	}
	faultOfList(t, g, w, code, at)
	// Whatever number is asked for, and however many trees there are.
	for _, k := range []int{0, 1, -1, 5, math.MaxInt, math.MinInt, api.Many} {
		faultOfAt(t, g, w, k, code, at)
	}
}

// wrong are changes that make a right grammar of two nonterminals, three terminals and two rules a wrong one.
var wrong = []struct {
	change   func(g *api.Grammar)
	code, at int
}{
	{func(g *api.Grammar) { g.Vars = 0 }, api.ErrRange, -1},
	{func(g *api.Grammar) { g.Vars = api.MaxVars + 1 }, api.ErrRange, -1},
	{func(g *api.Grammar) { g.Terms = -1 }, api.ErrRange, -1},
	{func(g *api.Grammar) { g.Terms = api.MaxTerms + 1 }, api.ErrRange, -1},
	{func(g *api.Grammar) { g.Start = 2 }, api.ErrRange, -1},
	{func(g *api.Grammar) { g.Start = -1 }, api.ErrRange, -1},
	{func(g *api.Grammar) { g.Rules = make([]api.Rule, api.MaxRules+1) }, api.ErrMany, -1},
	{func(g *api.Grammar) { g.Rules[1].Right = make([]int, api.MaxRight+1) }, api.ErrMany, 1},
	{func(g *api.Grammar) { g.Rules[0].Left = 2 }, api.ErrRange, 0},
	{func(g *api.Grammar) { g.Rules[1].Left = math.MinInt }, api.ErrRange, 1},
	{func(g *api.Grammar) { g.Rules[1].Right = []int{-4} }, api.ErrRange, 1},
	{func(g *api.Grammar) { g.Rules[1].Right = []int{0, 2} }, api.ErrRange, 1},
}

func TestFaultsOfTheGrammar(t *testing.T) {
	fine := read(2, "0 > 1; 1 > #0")
	x := node(0, node(1))
	wantTrees(t, fine, []int{0}, []api.Tree{x})
	for _, c := range wrong {
		g := fine
		g.Rules = slices.Clone(fine.Rules)
		c.change(&g)
		for _, w := range [][]int{{0}, nil, {-1}, {0, 99}, make([]int, api.MaxWord+1)} {
			faultOfBoth(t, g, w, c.code, c.at)
		}
		great := node(0, make([]api.Tree, api.MaxNodes)...)
		for _, y := range []api.Tree{x, {}, node(-1), node(7, x, x), great} {
			faultOfRank(t, g, y, c.code, c.at)
		}
		g.Rules = append(g.Rules, rule(0, 0))
		faultOfBoth(t, g, []int{0}, c.code, c.at)
		faultOfRank(t, g, x, c.code, c.at)
	}
}

func TestFaultsOfTheWord(t *testing.T) {
	g := read(1, "0 > #0 0; 0 >")
	for _, n := range []int{api.MaxWord + 1, api.MaxWord + 2, 1000, 100000} {
		faultOfBoth(t, g, make([]int, n), api.ErrWord, -1)
		w := slices.Repeat([]int{-1}, n)
		faultOfBoth(t, g, w, api.ErrWord, -1)
		faultOfBoth(t, read(1, "0 > 0"), w, api.ErrWord, -1)
	}
	for _, odd := range []int{3, 4, 99, -1, -2, math.MaxInt, math.MinInt} {
		for at := range api.MaxWord {
			w := make([]int, api.MaxWord)
			w[at] = odd
			faultOfBoth(t, g, w, api.ErrWord, at)
			w[api.MaxWord-1] = -5
			faultOfBoth(t, read(1, "0 > 0"), w, api.ErrWord, at)
		}
	}
	wantAt(t, g, make([]int, api.MaxWord), 0, chain(api.MaxWord))
	// A word that is wrong, ahead of more trees than may be.
	faultOfBoth(t, exactly(number("0x4000000000000000"), rule(0, first)), []int{3}, api.ErrWord, 0)
}

// chain answers the tree of a word of n terminals, where the rule 0 has one of them, and the rule 1 ends it.
func chain(n int) api.Tree {
	if n == 0 {
		return node(1)
	}
	return node(0, chain(n-1))
}

// rounds are grammars in which a nonterminal leads to itself alone; all but the last ones have a tree of the word 0, by the rule 0.
var rounds = []string{
	"0 > #0; 0 > 0",
	"0 > #0; 0 > 0 1; 1 >",
	"0 > #0; 0 > 1; 1 > 0",
	"0 > #0; 1 > 1",
	"0 > #0; 1 > 2; 2 > 3 1; 3 >",
	"0 > 0",
	"0 > 0 0; 0 >",
}

func TestWhatLeadsToItselfAlone(t *testing.T) {
	for _, rules := range rounds {
		for _, w := range []string{"", "0", "1", "012012012012"} {
			faultOfBoth(t, read(4, rules), spell(w), api.ErrRound, -1)
		}
	}
	// Ahead of more trees than may be, and of such as are too great.
	for _, g := range []api.Grammar{exactly(number("0x4000000000000000"), rule(0, first)), grown(1 << 20)} {
		g.Rules = append(g.Rules, rule(g.Vars-1, g.Vars-1))
		faultOfBoth(t, g, nil, api.ErrRound, -1)
	}
}

// P11.3: the faults of Rank.

func TestFaultsOfRank(t *testing.T) {
	g := read(3, "0 > 1 #0 2; 1 > #1; 1 >; 2 > 1 1; 2 >")
	wantRank(t, g, node(0, node(2), node(3, node(1), node(2))), 1)
	for _, x := range []api.Tree{
		{},                                 // No kids.
		node(0, node(2)),                   // Too few.
		node(0, node(2), node(4), node(4)), // Too many.
		node(0, node(4), node(2)),          // Of others.
		node(0, node(2), node(3)),
		node(0, node(2), node(4, node(2))),
		node(0, node(2), node(3, node(1), node(0))),
		node(2), // Not of Start.
		node(3, node(2), node(2)),
		node(-1), // Of no rule.
		node(5),
		node(math.MaxInt),
		node(math.MinInt),
		node(0, node(2), node(99)),
		node(0, node(-1), node(4)),
	} {
		faultOfRank(t, g, x, api.ErrTree, -1)
		// Ahead of what leads to itself alone, and of more trees than may be.
		round := g
		round.Rules = append(slices.Clone(g.Rules), rule(1, 1))
		faultOfRank(t, round, x, api.ErrTree, -1)
	}
	faultOfRank(t, read(1, ""), node(0), api.ErrTree, -1)
	for _, rules := range rounds[:5] {
		faultOfRank(t, read(4, rules), node(0), api.ErrRound, -1)
	}
	many := exactly(number("0x4000000000000000"), rule(0, first), rule(0))
	faultOfRank(t, many, node(1), api.ErrMany, -1)
	faultOfRank(t, many, node(0), api.ErrTree, -1)
	many.Rules = append(many.Rules, rule(1, 1))
	faultOfRank(t, many, node(1), api.ErrRound, -1)
}

// A tree of a word that is too long: its own fault, then the word's, then what leads to itself alone, then too many trees.
func TestRankOfLongWords(t *testing.T) {
	g := read(1, "0 > #0 0; 0 >")
	for _, n := range []int{0, 1, 2, api.MaxWord - 1, api.MaxWord} {
		wantRank(t, g, chain(n), 0)
	}
	round := read(2, "0 > #0 0; 0 >; 1 > 1")
	for _, n := range []int{api.MaxWord + 1, 20, api.MaxNodes - 1} {
		faultOfRank(t, g, chain(n), api.ErrWord, -1)
		faultOfRank(t, round, chain(n), api.ErrWord, -1)
		faultOfRank(t, read(1, "0 > #0 0; 0 >; 0 > 0 0; 0 > 0"), chain(n), api.ErrWord, -1)
	}
	for _, n := range []int{api.MaxNodes, api.MaxNodes + 1, 10000} {
		faultOfRank(t, g, chain(n), api.ErrMany, -1)
		faultOfRank(t, round, chain(n), api.ErrMany, -1)
	}
	many := exactly(number("0x4000000000000000"), rule(0, -1, 0), rule(0, first), rule(0))
	faultOfRank(t, many, node(2), api.ErrMany, -1)
	faultOfRank(t, many, deepen(node(2), api.MaxWord), api.ErrMany, -1)
	faultOfRank(t, many, deepen(node(2), api.MaxWord+1), api.ErrWord, -1)
}

// deepen puts so many trees of the rule 0 above one.
func deepen(t api.Tree, n int) api.Tree {
	for range n {
		t = node(0, t)
	}
	return t
}

// What holds everywhere.

// lists answers all lists of a tree.
func lists(t api.Tree) (out [][]api.Tree) {
	out = append(out, t.Kids)
	for _, kid := range t.Kids {
		out = append(out, lists(kid)...)
	}
	return out
}

// apart: no two lists share memory, not even behind their lengths.
func apart(t *testing.T, all [][]api.Tree) {
	t.Helper()
	seen := map[*api.Tree]bool{}
	for _, l := range all {
		l = l[:cap(l)]
		for i := range l {
			if seen[&l[i]] {
				t.Fatalf("two lists share memory")
			}
			seen[&l[i]] = true
		}
	}
}

func ownGrammar(g api.Grammar) api.Grammar {
	rules := slices.Clone(g.Rules)
	for r := range rules {
		rules[r].Right = slices.Clone(rules[r].Right)
	}
	g.Rules = rules
	return g
}

// samples are grammars and words with several trees.
func samples() (gs []api.Grammar, ws [][]int) {
	for _, c := range [][2]string{
		{"0 > 0 0; 0 > #0", "00000"},
		{"0 > 1 1 1; 1 > #0; 1 >; 1 > #0", "00"},
		{"0 > 1 #0 1; 1 > 2; 2 >; 1 >; 0 > #0; 0 > 2 #0", "0"},
		{"0 > 1 2; 1 >; 1 > 2; 2 >; 2 >", ""},
	} {
		gs, ws = append(gs, read(3, c[0])), append(ws, spell(c[1]))
	}
	return gs, ws
}

func TestAnswersAreNew(t *testing.T) {
	gs, ws := samples()
	for i, g := range gs {
		w := ws[i]
		list, _ := List(g, w)
		want := showAll(list)
		if len(want) < 4 {
			t.Fatalf("only %v", want)
		}
		all := [][]api.Tree{list}
		for _, x := range list {
			all = append(all, lists(x)...)
		}
		again, _ := List(g, w)
		all = append(all, again)
		for k, x := range again {
			one, _ := At(g, w, k)
			two, _ := At(g, w, k)
			all = slices.Concat(all, lists(x), lists(one), lists(two))
		}
		apart(t, all)
		// What is done to an answer, changes none that comes behind it.
		for _, l := range all {
			l = l[:cap(l)]
			for k := range l {
				l[k] = node(-7)
			}
		}
		last, _ := List(g, w)
		if !slices.Equal(showAll(last), want) {
			t.Errorf("%v, then %v", want, showAll(last))
		}
	}
}

// behind answers a list like l with other things behind its length.
func behind[T any](l []T, what ...T) []T {
	return append(append([]T(nil), l...), what...)[:len(l)]
}

// backed answers a tree like t with others behind each of its lists.
func backed(t api.Tree) api.Tree {
	var kids []api.Tree
	for _, kid := range t.Kids {
		kids = append(kids, backed(kid))
	}
	return api.Tree{Rule: t.Rule, Kids: behind(kids, node(0), node(1), node(2))}
}

func TestWhatIsHandedInStays(t *testing.T) {
	gs, ws := samples()
	for i, g := range gs {
		want, _ := List(g, ws[i])
		// What lies behind the lengths would make a difference.
		for r := range g.Rules {
			g.Rules[r].Right = behind(g.Rules[r].Right, 0, -1, 1)
		}
		g.Rules = behind(g.Rules, rule(0), rule(0, -1), rule(1, 1))
		w := behind(ws[i], 0, 1, 9)
		rules, word := g.Rules[:cap(g.Rules)], w[:cap(w)]
		kept, before := ownGrammar(api.Grammar{Rules: rules}), slices.Clone(word)
		wantTrees(t, g, w, want)
		for k, x := range want {
			x = backed(x)
			copied := backed(x)
			wantRank(t, g, x, k)
			if !reflect.DeepEqual(x, copied) || !reflect.DeepEqual(x.Kids[:cap(x.Kids)], copied.Kids[:cap(copied.Kids)]) {
				t.Errorf("the tree %v was changed", x)
			}
		}
		if !reflect.DeepEqual(rules, kept.Rules) || !slices.Equal(word, before) {
			t.Errorf("%v, %v were changed: %v, %v", kept.Rules, before, rules, word)
		}
		// What was answered does not hang on what is done to it by then.
		list, _ := List(g, w)
		one, _ := At(g, w, len(list)-1)
		for r := range rules {
			rules[r].Left = 77
			for k := range rules[r].Right {
				rules[r].Right[k] = 77
			}
		}
		clear(word)
		if !slices.Equal(showAll(list), showAll(want)) || show(one) != show(want[len(want)-1]) {
			t.Errorf("%v and %v, want %v", showAll(list), show(one), showAll(want))
		}
	}
}

// Empty lists and none are the same.
func TestEmptyLists(t *testing.T) {
	for _, none := range [][]int{nil, {}} {
		g := api.Grammar{Vars: 1, Rules: []api.Rule{{Right: none}}}
		wantList(t, g, none, []api.Tree{node(0)})
		wantAt(t, g, none, 0, node(0))
		wantRank(t, g, api.Tree{Kids: []api.Tree{}}, 0)
		wantRank(t, g, api.Tree{}, 0)
		g.Rules = g.Rules[:0]
		wantList(t, g, none, nil)
		faultOfAt(t, g, none, 0, api.ErrRange, -1)
		faultOfRank(t, g, api.Tree{}, api.ErrTree, -1)
		g.Rules = nil
		wantList(t, g, none, nil)
	}
}

// P1: trees that hold themselves, or share what they hold.
func TestTreesThatShareMemory(t *testing.T) {
	g := read(2, "0 > 0 0; 0 > 1; 1 >")
	loop := node(0, node(1), node(1))
	loop.Kids[0] = loop
	faultOfRank(t, g, loop, api.ErrMany, -1)
	g = read(1, "0 > 0 0; 0 > #0")
	share := node(1)
	for range 60 {
		share = node(0, share, share)
	}
	faultOfRank(t, g, share, api.ErrMany, -1)
	kids := []api.Tree{node(1), node(1)}
	x := api.Tree{Kids: []api.Tree{{Kids: kids}, {Kids: kids}}}
	wantRank(t, g, x, 2)
	fine := tree.Own(x)
	wantRank(t, g, fine, 2)
}
