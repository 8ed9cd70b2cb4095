package tree

import (
	"fmt"
	"math"
	"math/rand"
	"slices"
	"strconv"
	"strings"
	"testing"

	"graftwork/api"
	"graftwork/gram"
)

func rule(left int, right ...int) api.Rule { return api.Rule{Left: left, Right: right} }

func node(rule int, kids ...api.Tree) api.Tree { return api.Tree{Rule: rule, Kids: kids} }

// grammar makes a grammar of rules as the document tells them: terminals by #, `;` between the rules. It begins with 0.
func grammar(vars int, src string) api.Grammar {
	g := api.Grammar{Vars: vars, Terms: 3}
	for _, line := range strings.Split(src, ";") {
		words := strings.Fields(line)
		left, _ := strconv.Atoi(words[0])
		r := rule(left)
		for _, w := range words[2:] {
			n, _ := strconv.Atoi(strings.TrimPrefix(w, "#"))
			if strings.HasPrefix(w, "#") {
				n = -1 - n
			}
			r.Right = append(r.Right, n)
		}
		g.Rules = append(g.Rules, r)
	}
	return g
}

func from(start int, g api.Grammar) api.Grammar {
	g.Start = start
	return g
}

// read makes a tree of what the document writes: a rule, and its trees in brackets, with blanks between.
func read(src string) api.Tree {
	row, _ := readRow(src)
	return row[0]
}

func readRow(src string) (row []api.Tree, rest string) {
	for {
		src = strings.TrimLeft(src, " ")
		if src == "" || src[0] == ')' {
			return row, src
		}
		end := strings.IndexAny(src+" ", " ()")
		n, err := strconv.Atoi(src[:end])
		if err != nil {
			panic(err)
		}
		t := node(n)
		src = src[end:]
		if strings.HasPrefix(src, "(") {
			t.Kids, src = readRow(src[1:])
			src = src[1:]
		}
		row = append(row, t)
	}
}

// told tells a tree as read reads it.
func told(t api.Tree) string {
	s := strconv.Itoa(t.Rule)
	if len(t.Kids) == 0 {
		return s
	}
	var kids []string
	for _, kid := range t.Kids {
		kids = append(kids, told(kid))
	}
	return s + "(" + strings.Join(kids, " ") + ")"
}

// brief tells the beginning of what is long; of a great tree its top alone, because it may be without end below.
func brief(x any) string {
	if t, ok := x.(api.Tree); ok {
		if nodes(t) > 60 {
			return fmt.Sprintf("%d(.. %d trees ..)", t.Rule, len(t.Kids))
		}
		return told(t)
	}
	s := fmt.Sprint(x)
	if len(s) > 300 {
		return s[:300] + ".."
	}
	return s
}

// nodes counts trees in another way than the program: level by level, and no further than some thousand.
func nodes(t api.Tree) (n int) {
	for level := []api.Tree{t}; len(level) > 0 && n < 5000; {
		n += len(level)
		var next []api.Tree
		for _, x := range level {
			if len(next) > 5000 {
				break
			}
			next = append(next, x.Kids...)
		}
		level = next
	}
	return n
}

func wantFault(t *testing.T, g api.Grammar, x api.Tree, v, code, at int) {
	t.Helper()
	want := api.Fault{Code: code, At: at}
	if f := Check(g, x, v); f != want {
		t.Errorf("Check(%s, %s, %d): fault %v, want %v", brief(g), brief(x), v, f, want)
	}
}

func wantFine(t *testing.T, g api.Grammar, x api.Tree, v int) {
	t.Helper()
	wantFault(t, g, x, v, 0, 0)
}

func wantNoTree(t *testing.T, g api.Grammar, x api.Tree, v int) {
	t.Helper()
	wantFault(t, g, x, v, api.ErrTree, -1)
}

func wantWord(t *testing.T, g api.Grammar, x api.Tree, want ...int) {
	t.Helper()
	w, f := Word(g, x)
	if f != (api.Fault{}) || !slices.Equal(w, want) {
		t.Errorf("Word(%s, %s): %s, fault %v, want %s", brief(g), brief(x), brief(w), f, brief(want))
	}
}

// wantNoWord: with a fault, there is no list.
func wantNoWord(t *testing.T, g api.Grammar, x api.Tree, code, at int) {
	t.Helper()
	want := api.Fault{Code: code, At: at}
	if w, f := Word(g, x); w != nil || f != want {
		t.Errorf("Word(%s, %s): %s, fault %v, want %v", brief(g), brief(x), brief(w), f, want)
	}
}

// wantOrder: the other way round, it is the other way round.
func wantOrder(t *testing.T, a, b api.Tree, want int) {
	t.Helper()
	if Order(a, b) != want || Order(b, a) != -want {
		t.Errorf("Order of %s and %s: %d, the other way round %d, want %d", brief(a), brief(b), Order(a, b), Order(b, a), want)
	}
}

func wantOwn(t *testing.T, x api.Tree) {
	t.Helper()
	if got := Own(x); told(got) != told(x) {
		t.Errorf("Own(%s): %s", brief(x), brief(got))
	}
}

// ordinary: rules with both, with none, with terminals alone and with nonterminals alone; 4 has none.
func ordinary() api.Grammar {
	return grammar(5, "0 > 1 #0 1 #1 2; 1 >; 1 > #1 #0; 2 > 1 2; 2 > 3; 3 > #2; 0 > 0 0; 3 > 3 #0 0")
}

// trees of ordinary(): with their nonterminals and words.
func ordinaryTrees() []example {
	return []example{
		{"1", 1, nil},
		{"2", 1, []int{1, 0}},
		{"5", 3, []int{2}},
		{"4(5)", 2, []int{2}},
		{"3(1 4(5))", 2, []int{2}},
		{"3(2 4(5))", 2, []int{1, 0, 2}},
		{"3(2 3(1 3(2 4(5))))", 2, []int{1, 0, 1, 0, 2}},
		{"0(1 1 4(5))", 0, []int{0, 1, 2}},
		{"0(2 1 4(5))", 0, []int{1, 0, 0, 1, 2}},
		{"0(1 2 4(5))", 0, []int{0, 1, 0, 1, 2}},
		{"0(2 2 3(2 4(5)))", 0, []int{1, 0, 0, 1, 0, 1, 1, 0, 2}},
		{"6(0(1 1 4(5)) 0(2 1 4(5)))", 0, []int{0, 1, 2, 1, 0, 0, 1, 2}},
		{"6(6(0(1 1 4(5)) 0(1 1 4(5))) 0(1 2 4(5)))", 0, []int{0, 1, 2, 0, 1, 2, 0, 1, 0, 1, 2}},
		{"7(5 0(1 1 4(5)))", 3, []int{2, 0, 0, 1, 2}},
		{"7(7(5 0(1 1 4(5))) 0(1 1 4(5)))", 3, []int{2, 0, 0, 1, 2, 0, 0, 1, 2}},
		{"0(1 1 4(7(5 0(2 1 4(5)))))", 0, []int{0, 1, 2, 0, 1, 0, 0, 1, 2}},
	}
}

type example struct {
	tree string
	v    int
	word []int
}

// Ordinary trees.

func TestCheckOfOrdinaryTrees(t *testing.T) {
	for _, e := range ordinaryTrees() {
		for v := -4; v <= 7; v++ {
			for start := range 5 {
				if v == e.v {
					wantFine(t, from(start, ordinary()), read(e.tree), v)
				} else {
					wantNoTree(t, from(start, ordinary()), read(e.tree), v)
				}
			}
		}
	}
}

func TestWordOfOrdinaryTrees(t *testing.T) {
	for _, e := range ordinaryTrees() {
		for start := range 5 {
			if start == e.v {
				wantWord(t, from(start, ordinary()), read(e.tree), e.word...)
			} else {
				wantNoWord(t, from(start, ordinary()), read(e.tree), api.ErrTree, -1)
			}
		}
	}
}

// The document's: S > S a, S > b, and what turn makes of it.
func TestTreesOfTheDocument(t *testing.T) {
	wantWord(t, grammar(1, "0 > 0 #0; 0 > #1"), read("0(0(1))"), 1, 0, 0)
	turned := grammar(2, "0 > #1; 0 > #1 1; 1 > #0; 1 > #0 1")
	wantWord(t, turned, read("1(3(2))"), 1, 0, 0)
	wantWord(t, turned, read("0"), 1)
	wantWord(t, turned, read("1(2)"), 1, 0)
	wantNoTree(t, turned, read("0(0(1))"), 0)
}

// P8.1: what is no tree.

func TestCheckOfRuleNumbers(t *testing.T) {
	// All rules but the last are alike, so that only their number decides.
	for _, n := range []int{1, 2, 160} {
		g := api.Grammar{Vars: 1, Rules: slices.Repeat([]api.Rule{rule(0)}, n)}
		g.Rules = append(g.Rules[:n-1], rule(0, 0))
		for _, i := range []int{math.MinInt, math.MinInt32, -161, -2, -1, n, n + 1, n + 160, 1 << 32, math.MaxInt} {
			wantNoTree(t, g, node(i), 0)
			wantNoTree(t, g, node(n-1, node(i)), 0)
			wantNoTree(t, g, node(n-1, node(n-1, node(i))), 0)
			wantNoWord(t, g, node(i), api.ErrTree, -1)
		}
		for i := range n - 1 {
			wantFine(t, g, node(i), 0)
			wantFine(t, g, node(n-1, node(i)), 0)
		}
		wantNoTree(t, g, node(n-1), 0)
	}
}

func TestCheckOfAGrammarWithoutRules(t *testing.T) {
	for i := -2; i <= 2; i++ {
		for v := -2; v <= 2; v++ {
			wantNoTree(t, api.Grammar{Vars: 1}, node(i), v)
		}
		wantNoWord(t, api.Grammar{Vars: 1}, node(i), api.ErrTree, -1)
	}
}

// A v that is no nonterminal has no tree, nor has one that has no such rule.
func TestCheckOfV(t *testing.T) {
	for _, v := range []int{math.MinInt, -17, -2, -1, 2, 3, 63, 64, 1 << 32, math.MaxInt} {
		for _, x := range []string{"0", "1", "2(1)", "-1", "3"} {
			wantNoTree(t, grammar(2, "0 >; 1 > #0; 0 > 1"), read(x), v)
		}
	}
	all := api.Grammar{Vars: 64}
	for v := range 64 {
		all.Rules = append(all.Rules, rule(v))
	}
	for v := -3; v <= 67; v++ {
		for i := -1; i <= 64; i++ {
			if v == i && 0 <= i && i < 64 {
				wantFine(t, all, node(i), v)
			} else {
				wantNoTree(t, all, node(i), v)
			}
		}
	}
}

// v may be another one than Start, which Check does not look at.
func TestCheckIsOfVNotOfStart(t *testing.T) {
	g := grammar(3, "0 > #0; 1 > #1; 2 > 0 1")
	for start := range 3 {
		wantFine(t, from(start, g), read("0"), 0)
		wantFine(t, from(start, g), read("1"), 1)
		wantFine(t, from(start, g), read("2(0 1)"), 2)
		wantNoTree(t, from(start, g), read("0"), 1)
		wantNoTree(t, from(start, g), read("2(1 0)"), 2)
	}
}

func TestCheckOfTreesThatAreNone(t *testing.T) {
	g := ordinary()
	for _, c := range []struct {
		why   string
		trees []string
	}{
		{"too few trees", []string{"0", "0(1)", "0(1 1)", "6", "6(0(1 1 4(5)))", "0(1 1 4)", "0(1 1 3(1))", "0(1 1 3(4(5)))", "6(0(1 1 4(5)) 0(1 4(5)))"}},
		{"too many trees", []string{"0(1 1 4(5) 1)", "0(1 1 4(5) 4(5))", "0(1 1 1 4(5))", "0(1 1 4(5 5))", "0(1 1 4(5(5)))", "0(1(1) 1 4(5))", "0(1 2(1) 4(5))", "0(1 1 4(5(0(1 1 4(5)))))"}},
		{"a rule of another nonterminal", []string{"1", "2", "4(5)", "5", "0(1 1 5)", "0(1 1 1)", "0(4(5) 1 4(5))", "0(1 0(1 1 4(5)) 4(5))", "0(1 1 4(1))", "0(1 1 4(4(5)))", "6(0(1 1 4(5)) 1)", "6(1 0(1 1 4(5)))"}},
		{"another order", []string{"0(4(5) 1 1)", "0(1 4(5) 1)", "0(1 1 3(4(5) 1))"}},
		{"a tree in a terminal's place", []string{"0(1 0 1 1 4(5))", "0(1 -1 1 -2 4(5))", "0(1 1 4(5(2)))"}},
		{"no rule", []string{"-1", "8", "0(1 1 4(8))", "0(-1 1 4(5))", "0(1 8 4(5))", "0(1 1 -1)", "6(0(1 1 4(5)) 8)"}},
	} {
		for _, x := range c.trees {
			wantNoTree(t, g, read(x), 0)
			wantNoWord(t, g, read(x), api.ErrTree, -1)
			if t.Failed() {
				t.Fatal(c.why)
			}
		}
	}
}

// places answers a way to each tree in x, x itself among them.
func places(x *api.Tree) []*api.Tree {
	out := []*api.Tree{x}
	for i := range x.Kids {
		out = append(out, places(&x.Kids[i])...)
	}
	return out
}

// What is not so at one place alone, whichever it is, makes it no tree.
func TestCheckLooksAtEachPlace(t *testing.T) {
	g := ordinary()
	for _, e := range ordinaryTrees() {
		for i := range places(new(read(e.tree))) {
			for _, change := range []func(*api.Tree){
				func(p *api.Tree) { p.Rule = -1 },
				func(p *api.Tree) { p.Rule = len(g.Rules) },
				func(p *api.Tree) { p.Rule = -1 - p.Rule },
				func(p *api.Tree) { p.Rule += len(g.Rules) },
				func(p *api.Tree) { p.Rule += 1 << 32 },
				func(p *api.Tree) { p.Kids = append(p.Kids, node(1)) },
				func(p *api.Tree) { p.Kids = append(p.Kids, node(0, node(1), node(1), node(4, node(5)))) },
				func(p *api.Tree) { p.Kids = append([]api.Tree{node(5)}, p.Kids...) },
				func(p *api.Tree) {
					if len(p.Kids) == 0 {
						p.Rule = 4
					} else {
						p.Kids = p.Kids[1:]
					}
				},
				func(p *api.Tree) {
					if len(p.Kids) == 0 {
						p.Rule = 6
					} else {
						p.Kids = p.Kids[:len(p.Kids)-1]
					}
				},
			} {
				x := read(e.tree)
				wantFine(t, g, x, e.v)
				change(places(&x)[i])
				wantNoTree(t, g, x, e.v)
				wantNoWord(t, from(e.v, g), x, api.ErrTree, -1)
			}
		}
	}
}

// Whichever rule a place is given, only those of its nonterminal, with its trees, are right.
func TestCheckOfOtherRulesAtEachPlace(t *testing.T) {
	g := ordinary()
	for _, e := range ordinaryTrees() {
		for i := range places(new(read(e.tree))) {
			for n := range g.Rules {
				x := read(e.tree)
				p := places(&x)[i]
				old := g.Rules[p.Rule]
				p.Rule = n
				if g.Rules[n].Left == old.Left && slices.Equal(kids(g.Rules[n]), kids(old)) {
					wantFine(t, g, x, e.v)
				} else {
					wantNoTree(t, g, x, e.v)
				}
			}
		}
	}
}

// kids tells the nonterminals of a right side in another way: by leaving out what is none.
func kids(r api.Rule) []int {
	return slices.DeleteFunc(slices.Clone(r.Right), func(s int) bool { return s < 0 })
}

// P8.1: how many trees.

// line: n trees of the rule i, one in the other, the last one of the rule last.
func line(n, i, last int) api.Tree {
	t := node(last)
	for range n - 1 {
		t = node(i, t)
	}
	return t
}

// comb: a tree of n trees: ten below each, nine of which have none, as long as there are so many.
func comb(n int) api.Tree {
	if n < 11 {
		return node(n-1, slices.Repeat([]api.Tree{node(0)}, n-1)...)
	}
	row := slices.Repeat([]api.Tree{node(0)}, 9)
	return node(10, append(row, comb(n-10))...)
}

// wide: a grammar whose rule i is i times 0.
func wide() api.Grammar {
	g := api.Grammar{Vars: 1}
	for i := range 11 {
		g.Rules = append(g.Rules, rule(0, slices.Repeat([]int{0}, i)...))
	}
	return g
}

func TestCheckCountsTrees(t *testing.T) {
	g := grammar(1, "0 > #1 0 #0; 0 > #2")
	for n := 1; n <= 450; n++ {
		code, at := 0, 0
		if n > 400 {
			code, at = api.ErrMany, -1
		}
		wantFault(t, g, line(n, 0, 1), 0, code, at)
		if got := nodes(comb(n)); got != n {
			t.Fatalf("a comb of %d has %d trees", n, got)
		}
		wantFault(t, wide(), comb(n), 0, code, at)
		x := comb(n)
		for _, p := range places(&x) {
			slices.Reverse(p.Kids)
		}
		wantFault(t, wide(), x, 0, code, at)
	}
}

// halves: a tree of n trees, two below each that has any; n is odd.
func halves(n int) api.Tree {
	if n == 1 {
		return node(1)
	}
	left := (n - 1) / 2
	left -= 1 - left%2
	return node(0, halves(left), halves(n-1-left))
}

func TestCheckCountsTreesOfAllBranches(t *testing.T) {
	g := grammar(2, "0 > 0 0; 0 > #0; 1 > 0")
	for n := 351; n < 450; n += 2 {
		x := halves(n)
		if nodes(x) != n {
			t.Fatalf("%d trees, want %d", nodes(x), n)
		}
		if n <= 400 {
			wantFine(t, g, x, 0)
			wantWord(t, g, x, make([]int, (n+1)/2)...)
		} else {
			wantFault(t, g, x, 0, api.ErrMany, -1)
			wantNoWord(t, g, x, api.ErrMany, -1)
		}
	}
	wantFine(t, g, node(2, halves(399)), 1)
	wantFault(t, g, node(2, halves(401)), 1, api.ErrMany, -1)
}

// Trees below what is no tree count, too: there are too many, ahead of that it is none.
func TestCheckTellsManyAheadOfNoTree(t *testing.T) {
	g := grammar(1, "0 > 0 #0; 0 > #1")
	for _, c := range []struct {
		why  string
		make func(n int) api.Tree
	}{
		{"no rule at the top", func(n int) api.Tree { return node(-1, line(n-1, 0, 1)) }},
		{"no rule at all", func(n int) api.Tree { return line(n, 9, 9) }},
		{"no rule at the end", func(n int) api.Tree { return line(n, 0, 2) }},
		{"too few at the end", func(n int) api.Tree { return line(n, 0, 0) }},
		{"too many in one", func(n int) api.Tree { return node(0, slices.Repeat([]api.Tree{node(1)}, n-1)...) }},
		{"below one that has none", func(n int) api.Tree { return node(1, line(n-1, 0, 1)) }},
		{"one too many at the end", func(n int) api.Tree { return node(0, line(n-2, 0, 1), node(1)) }},
		{"one too many at the beginning", func(n int) api.Tree { return node(0, node(1), line(n-2, 0, 1)) }},
	} {
		for n := 395; n <= 405; n++ {
			x := c.make(n)
			if nodes(x) != n {
				t.Fatalf("%s: %d trees, want %d", c.why, nodes(x), n)
			}
			code := api.ErrTree
			if n > 400 {
				code = api.ErrMany
			}
			wantFault(t, g, x, 0, code, -1)
			wantFault(t, g, x, 7, code, -1)
			wantNoWord(t, g, x, code, -1)
		}
	}
	wantFault(t, g, line(401, 0, 1), 1, api.ErrMany, -1)
	wantFault(t, g, line(401, 0, 1), -1, api.ErrMany, -1)
	wantFault(t, g, line(400, 0, 1), 1, api.ErrTree, -1)
}

// P1: trees that are far greater than what they lie in, or without end.
func TestCheckOfVastTrees(t *testing.T) {
	g := grammar(1, "0 > 0 0; 0 > #0; 0 > 0")
	doubled := node(1)
	for range 64 {
		doubled = node(0, doubled, doubled)
	}
	endless := node(2, node(1))
	endless.Kids[0] = endless
	twice := node(0, node(1), node(1))
	twice.Kids[0], twice.Kids[1] = twice, twice
	broad := node(0, make([]api.Tree, 1<<20)...)
	for _, x := range []api.Tree{doubled, endless, twice, broad, line(1<<16, 2, 1)} {
		wantFault(t, g, x, 0, api.ErrMany, -1)
		wantFault(t, g, x, -5, api.ErrMany, -1)
		wantNoWord(t, g, x, api.ErrMany, -1)
		wantFault(t, api.Grammar{}, x, 0, api.ErrRange, -1)
	}
}

// P8.1: wrong grammars.

func TestGrammarsFaultComesFirst(t *testing.T) {
	long := rule(0, make([]int, 11)...)
	for _, c := range []struct {
		g        api.Grammar
		code, at int
	}{
		{api.Grammar{}, api.ErrRange, -1},
		{api.Grammar{Vars: 65}, api.ErrRange, -1},
		{api.Grammar{Vars: math.MinInt}, api.ErrRange, -1},
		{api.Grammar{Vars: 1, Terms: -1}, api.ErrRange, -1},
		{api.Grammar{Vars: 1, Terms: 17}, api.ErrRange, -1},
		{api.Grammar{Vars: 1, Start: 1, Rules: []api.Rule{rule(0)}}, api.ErrRange, -1},
		{api.Grammar{Vars: 1, Start: -1, Rules: []api.Rule{rule(0)}}, api.ErrRange, -1},
		{api.Grammar{Vars: 1, Rules: make([]api.Rule, 161)}, api.ErrMany, -1},
		{api.Grammar{Vars: 1, Rules: []api.Rule{rule(0), long}}, api.ErrMany, 1},
		{api.Grammar{Vars: 1, Rules: []api.Rule{rule(0), rule(1)}}, api.ErrRange, 1},
		{api.Grammar{Vars: 1, Rules: []api.Rule{rule(0), rule(0, 0), rule(0, 1)}}, api.ErrRange, 2},
		{api.Grammar{Vars: 1, Rules: []api.Rule{rule(0, -1)}}, api.ErrRange, 0},
		{api.Grammar{Vars: 1, Rules: []api.Rule{rule(-1), long}}, api.ErrRange, 0},
	} {
		for _, x := range []api.Tree{node(0), node(1), node(1, node(0)), node(-1), node(500), line(400, 1, 0), line(401, 1, 0), line(1000, 7, 7)} {
			for _, v := range []int{-1, 0, 1, 64, math.MinInt, c.g.Start} {
				wantFault(t, c.g, x, v, c.code, c.at)
			}
			wantNoWord(t, c.g, x, c.code, c.at)
		}
		if f := gram.Check(c.g); f != (api.Fault{Code: c.code, At: c.at}) {
			t.Errorf("gram.Check(%s): %v", brief(c.g), f)
		}
	}
}

// P8.2: words.

func TestWordsWithNothingInThem(t *testing.T) {
	g := grammar(3, "0 >; 0 > 1; 0 > 1 2 1; 1 >; 1 > 2; 2 >; 2 > 2 2; 0 > 1 #0 2 2")
	for _, x := range []string{"0", "1(3)", "1(4(5))", "2(3 5 3)", "2(4(6(5 6(5 5))) 5 3)"} {
		wantWord(t, g, read(x))
	}
	wantWord(t, g, read("7(3 5 5)"), 0)
	wantWord(t, g, read("7(4(6(5 5)) 6(5 5) 5)"), 0)
	w, _ := Word(g, read("1(3)"))
	if len(w) != 0 {
		t.Errorf("the empty word: %v", w)
	}
}

func TestWordHoldsItsOrder(t *testing.T) {
	g := grammar(4, "0 > 1 2 3; 0 > #0 1 #1 2 #2 3 #0; 1 > #0; 2 > #1 #1; 3 > #2 #2 #2; 1 > 2 3; 0 > 3 2 1")
	wantWord(t, g, read("0(2 3 4)"), 0, 1, 1, 2, 2, 2)
	wantWord(t, g, read("6(4 3 2)"), 2, 2, 2, 1, 1, 0)
	wantWord(t, g, read("1(2 3 4)"), 0, 0, 1, 1, 1, 2, 2, 2, 2, 0)
	wantWord(t, g, read("1(5(3 4) 3 4)"), 0, 1, 1, 2, 2, 2, 1, 1, 1, 2, 2, 2, 2, 0)
}

func TestWordTellsEachTerminal(t *testing.T) {
	g := api.Grammar{Vars: 1, Terms: 16}
	for n := range 16 {
		g.Rules = append(g.Rules, rule(0, -1-n))
	}
	g.Rules = append(g.Rules, rule(0, -16, 0, -1, 0, -8))
	for n := range 16 {
		wantWord(t, g, node(n), n)
		wantWord(t, g, node(16, node(n), node(15-n)), 15, n, 0, 15-n, 7)
	}
}

// The bound of a word that is asked for (MaxWord) is none of a tree's.
func TestWordOfGreatTrees(t *testing.T) {
	g := api.Grammar{Vars: 1, Terms: 2, Rules: []api.Rule{rule(0, -1, -1, -1, -1, 0, -2, -2, -2, -2, -2), rule(0)}}
	x := line(400, 0, 1)
	want := append(make([]int, 4*399), slices.Repeat([]int{1}, 5*399)...)
	wantWord(t, g, x, want...)
	wantNoWord(t, g, line(401, 0, 1), api.ErrMany, -1)
}

func TestWordIsOfStart(t *testing.T) {
	g := grammar(2, "0 > 1; 1 > #2")
	wantWord(t, g, read("0(1)"), 2)
	wantNoWord(t, g, read("1"), api.ErrTree, -1)
	wantWord(t, from(1, g), read("1"), 2)
	wantNoWord(t, from(1, g), read("0(1)"), api.ErrTree, -1)
}

// P8.3: which one is below.

func TestOrderOfOrdinaryTrees(t *testing.T) {
	for _, c := range []struct {
		a, b string
		want int
	}{
		{"0", "0", 0},
		{"0", "1", -1},
		{"9", "10", -1},
		{"-1", "0", -1},
		{"-2", "-1", -1},
		// The rule comes first, whatever is below.
		{"0(9 9 9)", "1", -1},
		{"0(9)", "1(0)", -1},
		{"0", "1(0)", -1},
		{"1", "0(5)", 1},
		// Then the trees from the left.
		{"0(1 2)", "0(1 2)", 0},
		{"0(0 9)", "0(1 0)", -1},
		{"0(1 2)", "0(1 3)", -1},
		{"0(1 1 9)", "0(1 2 0)", -1},
		{"0(2)", "0(1 9 9)", 1},
		{"0(1(0) 0)", "0(1(0) 1)", -1},
		// A tree is gone through whole, ahead of the next one.
		{"0(1(0) 9)", "0(1(1) 0)", -1},
		{"0(1(5(7)) 0)", "0(1(5(6)) 9)", 1},
		{"0(1 9)", "0(1(0) 0)", -1},
		{"0(1(0) 1)", "0(1 2)", 1},
		// Where one has no more.
		{"0", "0(0)", -1},
		{"0", "0(-5)", -1},
		{"0(1)", "0(1 0)", -1},
		{"0(1 2)", "0(1 2 -9)", -1},
		{"0(1(2))", "0(1(2 0))", -1},
		{"0(1(2) 9)", "0(1(2 0) 0)", -1},
		{"0(0 0)", "0(1)", -1},
		{"3(3(3(3)))", "3(3(3))", 1},
		{"3(3(3(3)))", "3(3(3(3)))", 0},
		{"3(3(3(3)))", "3(3(3(4)))", -1},
	} {
		wantOrder(t, read(c.a), read(c.b), c.want)
		wantOrder(t, read(c.a), read(c.a), 0)
		wantOrder(t, read(c.b), read(c.b), 0)
		// Below other trees it is the same.
		wantOrder(t, node(4, node(1), read(c.a), node(3)), node(4, node(1), read(c.b), node(2)), cmpOr(c.want, 1))
	}
}

func cmpOr(n, other int) int {
	if n != 0 {
		return n
	}
	return other
}

// The difference of two rules may be no number at all.
func TestOrderOfFarRules(t *testing.T) {
	far := []int{math.MinInt, math.MinInt + 1, math.MinInt32, -1, 0, 1, math.MaxInt32, 1 << 32, math.MaxInt - 1, math.MaxInt}
	for i, a := range far {
		for j, b := range far {
			want := min(max(i-j, -1), 1)
			wantOrder(t, node(a), node(b), want)
			wantOrder(t, node(7, node(a)), node(7, node(b)), want)
		}
	}
}

func TestOrderOfListsWithoutElements(t *testing.T) {
	none := [][]api.Tree{nil, {}, make([]api.Tree, 0, 3), []api.Tree{node(1)}[:0]}
	for _, a := range none {
		for _, b := range none {
			wantOrder(t, node(2, a...), node(2, b...), 0)
			wantOrder(t, api.Tree{Rule: 2, Kids: a}, api.Tree{Rule: 2, Kids: b}, 0)
			wantOrder(t, api.Tree{Rule: 2, Kids: a}, node(2, node(math.MinInt)), -1)
		}
	}
}

// spelled tells a tree as numbers whose order is the tree's: 1 ahead of each tree that is below, 0 where there is no more.
func spelled(t api.Tree) []int {
	out := []int{t.Rule}
	for _, kid := range t.Kids {
		out = append(append(out, 1), spelled(kid)...)
	}
	return append(out, 0)
}

func holdOrder(t *testing.T, a, b api.Tree) {
	t.Helper()
	wantOrder(t, a, b, slices.Compare(spelled(a), spelled(b)))
}

// shapes answers all trees with just n nodes and rules under m.
func shapes(n, m int) (out []api.Tree) {
	for _, row := range rows(n-1, m) {
		for i := range m {
			out = append(out, node(i, row...))
		}
	}
	return out
}

// rows answers all rows of trees with just n nodes in all.
func rows(n, m int) (out [][]api.Tree) {
	if n == 0 {
		return [][]api.Tree{nil}
	}
	for first := 1; first <= n; first++ {
		for _, t := range shapes(first, m) {
			for _, row := range rows(n-first, m) {
				out = append(out, append([]api.Tree{t}, row...))
			}
		}
	}
	return out
}

// small answers all trees with at most n nodes and rules under m.
func small(n, m int) (out []api.Tree) {
	for k := 1; k <= n; k++ {
		out = append(out, shapes(k, m)...)
	}
	return out
}

func TestOrderOfAllSmallTrees(t *testing.T) {
	all := small(4, 2)
	for _, a := range all {
		for _, b := range all {
			holdOrder(t, a, b)
			if (Order(a, b) == 0) != (told(a) == told(b)) {
				t.Errorf("Order of %s and %s: %d", told(a), told(b), Order(a, b))
			}
		}
	}
	slices.SortFunc(all, Order)
	for i, a := range all {
		for j, b := range all {
			wantOrder(t, a, b, min(max(i-j, -1), 1))
		}
	}
}

// P1: Order and Own of trees of many levels, or with many trees in one.
func TestGreatTrees(t *testing.T) {
	deep := func(last int) api.Tree { return line(1<<16, 3, last) }
	wantOrder(t, deep(1), deep(1), 0)
	wantOrder(t, deep(1), deep(2), -1)
	wantOrder(t, deep(1), line(1<<16-1, 3, 1), 1)
	wantOrder(t, deep(3), line(1<<16-1, 3, 3), 1)
	if got := Own(deep(1)); Order(got, deep(1)) != 0 {
		t.Error("Own of a deep tree is another one")
	}
	broad := func(last int) api.Tree {
		return node(0, append(make([]api.Tree, 1<<18), node(last))...)
	}
	wantOrder(t, broad(1), broad(1), 0)
	wantOrder(t, broad(1), broad(2), -1)
	wantOrder(t, broad(0), node(0, make([]api.Tree, 1<<18)...), 1)
	if got := Own(broad(5)); Order(got, broad(5)) != 0 {
		t.Error("Own of a broad tree is another one")
	}
}

// Own.

func TestOwnOfWhateverTrees(t *testing.T) {
	for _, e := range ordinaryTrees() {
		wantOwn(t, read(e.tree))
	}
	for _, x := range small(4, 2) {
		wantOwn(t, x)
	}
	for _, x := range []api.Tree{{}, node(-1), node(math.MinInt, node(math.MaxInt)), {Kids: []api.Tree{}}, line(401, 9, -9), halves(999), node(3, make([]api.Tree, 999)...)} {
		wantOwn(t, x)
	}
}

// numbers answers where each number of the lists of a tree lies, behind the lengths, too.
func numbers(t api.Tree) (out []*int) {
	for _, kid := range t.Kids {
		out = append(out, numbers(kid)...)
	}
	all := t.Kids[:cap(t.Kids)]
	for i := range all {
		out = append(out, &all[i].Rule)
	}
	return out
}

// wantApart writes another number to each place, and asks whether they all stay.
func wantApart(t *testing.T, x api.Tree) {
	t.Helper()
	all := numbers(x)
	for i, p := range all {
		*p = 1000 + i
	}
	for i, p := range all {
		if *p != 1000+i {
			t.Fatalf("two lists of an answer share memory: %d, want %d", *p, 1000+i)
		}
	}
}

func TestOwnSharesNothing(t *testing.T) {
	for _, e := range ordinaryTrees() {
		x := read(e.tree)
		got := Own(x)
		wantApart(t, got)
		if told(x) != e.tree {
			t.Errorf("with what Own answered, %s became %s", e.tree, told(x))
		}
		got = Own(x)
		for _, p := range places(&x) {
			p.Rule = -7
			clear(p.Kids)
		}
		if told(got) != e.tree {
			t.Errorf("with what Own was given, %s became %s", e.tree, told(got))
		}
	}
}

// Lists of what is handed in may share memory; those that are answered may not.
func TestOwnOfTreesThatShare(t *testing.T) {
	row := []api.Tree{node(1), node(2, node(3)), node(4), node(5)}
	x := node(0, node(6, row...), node(7, row...), node(8, row[1:3]...), node(9, row[:2]...))
	want := told(x)
	got := Own(x)
	if told(got) != want {
		t.Errorf("Own: %s, want %s", told(got), want)
	}
	wantApart(t, got)
	if told(x) != want {
		t.Errorf("it became %s", told(x))
	}
	doubled := node(1)
	for range 10 {
		doubled = node(0, doubled, doubled)
	}
	wantApart(t, Own(doubled))
	if told(doubled) != told(Own(doubled)) {
		t.Error("Own of a tree that shares is another one")
	}
}

// What holds everywhere: what is handed in stays, and what is answered is new.

// roomy lays the lists of a tree anew, with something behind the length of each.
func roomy(t api.Tree, odd int) api.Tree {
	kids := make([]api.Tree, 0, len(t.Kids)+2)
	for _, kid := range t.Kids {
		kids = append(kids, roomy(kid, odd))
	}
	behind := kids[len(kids):cap(kids)]
	for i := range behind {
		behind[i] = node(odd, node(odd))
	}
	return api.Tree{Rule: t.Rule, Kids: kids}
}

// roomyGrammar does so with the lists of a grammar.
func roomyGrammar(g api.Grammar, odd int) api.Grammar {
	rules := make([]api.Rule, 0, len(g.Rules)+2)
	for _, r := range g.Rules {
		right := append(make([]int, 0, len(r.Right)+2), r.Right...)
		right[:cap(right)][len(right)] = odd
		rules = append(rules, api.Rule{Left: r.Left, Right: right})
	}
	rules[:cap(rules)][len(rules)] = rule(0, odd)
	g.Rules = rules
	return g
}

// memory tells all that lies in the lists of a tree, behind their lengths, too.
func memory(t api.Tree) []int {
	out := []int{t.Rule, len(t.Kids), cap(t.Kids)}
	for _, kid := range t.Kids[:cap(t.Kids)] {
		out = append(out, memory(kid)...)
	}
	return out
}

func grammarMemory(g api.Grammar) []int {
	out := []int{g.Vars, g.Terms, g.Start, len(g.Rules), cap(g.Rules)}
	for _, r := range g.Rules[:cap(g.Rules)] {
		out = append(out, r.Left, len(r.Right), cap(r.Right))
		out = append(out, r.Right[:cap(r.Right)]...)
	}
	return out
}

// With something behind each list, whatever it is, all is answered as without it, and it lies there still.
func TestNothingIsChangedAndNothingBehindAListIsRead(t *testing.T) {
	for _, odd := range []int{-1, 0, 1, 5, 99} {
		for _, e := range ordinaryTrees() {
			g, x, y := roomyGrammar(from(e.v, ordinary()), odd), roomy(read(e.tree), odd), roomy(read(e.tree), odd+1)
			before := [][]int{grammarMemory(g), memory(x), memory(y)}
			wantFine(t, g, x, e.v)
			wantNoTree(t, g, x, e.v+1)
			wantWord(t, g, x, e.word...)
			wantOrder(t, x, y, 0)
			wantOrder(t, x, read(e.tree), 0)
			wantOwn(t, x)
			wantApart(t, Own(x))
			wantNoTree(t, g, node(6, x, node(1)), e.v)
			wantNoWord(t, api.Grammar{Rules: g.Rules}, x, api.ErrRange, -1)
			after := [][]int{grammarMemory(g), memory(x), memory(y)}
			if fmt.Sprint(before) != fmt.Sprint(after) {
				t.Fatalf("it was changed: %v, %v, %v", g, told(x), told(y))
			}
		}
	}
}

// Behind a list that is just long enough lies what would make it too many.
func TestCheckCountsNothingBehindAList(t *testing.T) {
	g := grammar(1, "0 > 0; 0 > #0")
	x := roomy(line(400, 0, 1), 0)
	wantFine(t, g, x, 0)
	wantWord(t, g, x, 0)
}

func TestWordIsNew(t *testing.T) {
	g, x := grammar(1, "0 > #0 #1 #2; 0 > 0 0"), read("1(0 0)")
	first, _ := Word(g, x)
	second, _ := Word(g, x)
	all := first[:cap(first)]
	for i := range all {
		all[i] = -9
	}
	if !slices.Equal(second, []int{0, 1, 2, 0, 1, 2}) {
		t.Errorf("with another answer it became %v", second)
	}
	wantWord(t, g, x, 0, 1, 2, 0, 1, 2)
	for _, r := range g.Rules {
		clear(r.Right)
	}
	if !slices.Equal(second, []int{0, 1, 2, 0, 1, 2}) {
		t.Errorf("with the grammar it became %v", second)
	}
}

// A second way to all of it.

// derive goes from the left through what is to come of v, and answers the word, or that t is no tree of v: of what stands first, a nonterminal takes the tree that stands first of those that are left.
func derive(g api.Grammar, t api.Tree, v int) (word []int, ok bool) {
	if v < 0 {
		return nil, false
	}
	due, left := []int{v}, []api.Tree{t}
	for len(due) > 0 {
		s := due[0]
		due = due[1:]
		if s < 0 {
			word = append(word, ^s)
			continue
		}
		x := left[0]
		if !slices.Contains(gram.By(g, s), x.Rule) || len(x.Kids) != len(kids(g.Rules[x.Rule])) {
			return nil, false
		}
		left = append(slices.Clone(x.Kids), left[1:]...)
		due = append(slices.Clone(g.Rules[x.Rule].Right), due...)
	}
	return word, len(left) == 0
}

// holdAll holds all that is asked of g, t and v against the second way, and answers the fault of Check.
func holdAll(t *testing.T, g api.Grammar, x api.Tree, v int) api.Fault {
	t.Helper()
	want := func(v int) (word []int, f api.Fault) {
		if f := gram.Check(g); f.Code != 0 {
			return nil, f
		}
		if nodes(x) > 400 {
			return nil, api.Fault{Code: api.ErrMany, At: -1}
		}
		word, ok := derive(g, x, v)
		if !ok {
			return nil, api.Fault{Code: api.ErrTree, At: -1}
		}
		return word, api.Fault{}
	}
	_, f := want(v)
	wantFault(t, g, x, v, f.Code, f.At)
	word, ff := want(g.Start)
	if ff.Code == 0 {
		wantWord(t, g, x, word...)
	} else {
		wantNoWord(t, g, x, ff.Code, ff.At)
	}
	return f
}

func TestAllSmallTreesOfSmallGrammars(t *testing.T) {
	trees := append(small(5, 3), read("-1"), read("3"), read("0(-1)"), read("0(3)"))
	for _, src := range []string{
		"0 > 0; 0 > 0 0; 0 >",
		"0 > 0 0 #0; 0 > #0; 0 > 0 0 0",
		"0 > 1 #0; 1 > 0 #1; 1 > #2",
		"0 > 1 1; 1 > 0 1; 1 >",
		"0 > 0 1; 1 > #0; 0 > #1 #2",
		"1 > 1 0 1; 0 >; 1 > #2",
		"0 > #0 1 1; 1 >; 1 > 1 1",
	} {
		for start := range 2 {
			g := from(start, grammar(2, src))
			fine := 0
			for _, x := range trees {
				for v := -2; v <= 3; v++ {
					if f := holdAll(t, g, x, v); f.Code == 0 {
						fine++
					}
				}
			}
			if fine == 0 {
				t.Errorf("%s has no tree", src)
			}
		}
	}
}

// The document's: S > S S, S > a: the word a a a has two trees, a a a a five.
func TestHowManyTreesTheDocumentSays(t *testing.T) {
	g := grammar(1, "0 > 0 0; 0 > #0")
	count := map[int]int{}
	for _, x := range small(7, 2) {
		if w, f := Word(g, x); f.Code == 0 {
			count[len(w)]++
		}
	}
	if fmt.Sprint(count) != "map[1:1 2:1 3:2 4:5]" {
		t.Errorf("trees of words of each length: %v", count)
	}
}

// maker makes up grammars and trees: of a thousand choices so many are wild.
type maker struct {
	*rand.Rand
	wild int
}

func (m *maker) odd() bool { return m.Intn(1000) < m.wild }

func (m *maker) grammar() api.Grammar {
	g := api.Grammar{Vars: 1 + m.Intn(4), Terms: m.Intn(4)}
	g.Start = m.Intn(g.Vars)
	for v := range g.Vars {
		// Each has a tree.
		g.Rules = append(g.Rules, rule(v, slices.Repeat([]int{-g.Terms}, min(g.Terms, m.Intn(3)))...))
	}
	for range m.Intn(12) {
		r := rule(m.Intn(g.Vars))
		for range m.Intn(5) {
			r.Right = append(r.Right, m.Intn(g.Vars+g.Terms)-g.Terms)
		}
		g.Rules = append(g.Rules, r)
	}
	m.Shuffle(len(g.Rules), func(i, j int) { g.Rules[i], g.Rules[j] = g.Rules[j], g.Rules[i] })
	if m.odd() {
		g.Start = m.Intn(6) - 1
	}
	if m.odd() {
		g.Rules[m.Intn(len(g.Rules))].Left = m.Intn(6) - 1
	}
	return g
}

// tree makes up a tree of v, of some *room trees.
func (m *maker) tree(g api.Grammar, v int, room *int) api.Tree {
	*room--
	by := gram.By(g, v)
	if m.odd() || len(by) == 0 {
		return node(m.Intn(len(g.Rules)+2) - 1)
	}
	if *room < 0 {
		by = slices.DeleteFunc(by, func(i int) bool { return len(kids(g.Rules[i])) > 0 })
	}
	if len(by) == 0 {
		return node(0)
	}
	t := node(by[m.Intn(len(by))])
	for _, s := range kids(g.Rules[t.Rule]) {
		t.Kids = append(t.Kids, m.tree(g, s, room))
	}
	if m.odd() {
		t.Kids = append(t.Kids, node(m.Intn(len(g.Rules))))
	}
	if m.odd() && len(t.Kids) > 0 {
		t.Kids = t.Kids[1:]
	}
	return t
}

func TestTreesMadeUp(t *testing.T) {
	seen := map[int]int{}
	for _, wild := range []int{0, 2, 20, 200} {
		m := &maker{Rand: rand.New(rand.NewSource(int64(8 + wild))), wild: wild}
		for range 1500 {
			g := m.grammar()
			v := m.Intn(g.Vars)
			room := []int{5, 20, 100, 380}[m.Intn(4)]
			x := m.tree(g, v, &room)
			y := Own(x)
			all := places(&y)
			*all[m.Intn(len(all))] = node(m.Intn(len(g.Rules)))
			seen[holdAll(t, g, x, v).Code]++
			holdAll(t, g, y, v)
			holdOrder(t, x, y)
			holdOrder(t, x, x)
			wantOwn(t, x)
			if t.Failed() {
				return
			}
		}
	}
	for _, code := range []int{0, api.ErrRange, api.ErrMany, api.ErrTree} {
		if seen[code] < 10 {
			t.Errorf("code %d was told %d times alone", code, seen[code])
		}
	}
}

// reader makes grammars and trees of bytes, whatever they are.
type reader struct{ data []byte }

func (r *reader) next() int {
	if len(r.data) == 0 {
		return 0
	}
	n := int(int8(r.data[0]))
	r.data = r.data[1:]
	return n
}

func (r *reader) grammar() (g api.Grammar) {
	g.Vars, g.Terms, g.Start = r.next(), r.next(), r.next()
	for range max(r.next(), 0) {
		x := rule(r.next())
		for range max(r.next(), 0) {
			x.Right = append(x.Right, r.next())
		}
		g.Rules = append(g.Rules, x)
	}
	return g
}

func (r *reader) tree() api.Tree {
	t := node(r.next())
	for range max(r.next(), 0) {
		if len(r.data) > 0 {
			t.Kids = append(t.Kids, r.tree())
		}
	}
	return t
}

func FuzzTree(f *testing.F) {
	f.Add([]byte{1, 2, 0, 2, 0, 2, 0, 255, 0, 1, 254, 0, 0, 1, 0, 1, 1, 0, 1, 0})
	f.Add([]byte{2, 1, 1, 3, 0, 0, 1, 2, 0, 1, 1, 1, 255, 1, 1, 2, 0, 0, 2, 0, 1})
	f.Add([]byte{0})
	f.Fuzz(func(t *testing.T, data []byte) {
		r := &reader{data}
		g, v := r.grammar(), r.next()
		a, b := r.tree(), r.tree()
		holdAll(t, g, a, v)
		holdOrder(t, a, b)
		wantOwn(t, a)
	})
}
