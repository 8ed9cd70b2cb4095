package gram

import (
	"fmt"
	"math"
	"math/rand"
	"reflect"
	"slices"
	"testing"

	"graftwork/api"
)

func rule(left int, right ...int) api.Rule { return api.Rule{Left: left, Right: right} }

// gram: a grammar that begins with 0.
func gram(vars, terms int, rules ...api.Rule) api.Grammar {
	return api.Grammar{Vars: vars, Terms: terms, Rules: rules}
}

// times: a rule of 0 with n times the symbol s.
func times(n, s int) api.Rule { return rule(0, slices.Repeat([]int{s}, n)...) }

func brief(x any) string {
	s := fmt.Sprint(x)
	if len(s) > 200 {
		return s[:200] + ".."
	}
	return s
}

func wantFault(t *testing.T, g api.Grammar, code, at int) {
	t.Helper()
	want := api.Fault{Code: code, At: at}
	if f := Check(g); f != want {
		t.Errorf("Check(%s): fault %v, want %v", brief(g), f, want)
	}
}

func wantFine(t *testing.T, g api.Grammar) {
	t.Helper()
	wantFault(t, g, 0, 0)
}

func wantSame(t *testing.T, a, b api.Grammar, want bool) {
	t.Helper()
	if Same(a, b) != want || Same(b, a) != want {
		t.Errorf("Same of %s and %s: %v, the other way round %v, want %v", brief(a), brief(b), Same(a, b), Same(b, a), want)
	}
}

func wantKids(t *testing.T, r api.Rule, want ...int) {
	t.Helper()
	if got := Kids(r); !slices.Equal(got, want) {
		t.Errorf("Kids(%s): %s, want %s", brief(r), brief(got), brief(want))
	}
}

func wantBy(t *testing.T, g api.Grammar, v int, want ...int) {
	t.Helper()
	if got := By(g, v); !slices.Equal(got, want) {
		t.Errorf("By(%s, %d): %s, want %s", brief(g), v, brief(got), brief(want))
	}
}

// wantOwn: Own answers the same, to the number.
func wantOwn(t *testing.T, g api.Grammar) {
	t.Helper()
	if got := Own(g); fmt.Sprint(got) != fmt.Sprint(g) {
		t.Errorf("Own(%s): %s", brief(g), brief(got))
	}
}

// ordinary: rules with terminals, with nonterminals, with both and with none; 0 has three, 1 and 2 have one, 3 has none.
func ordinary() api.Grammar {
	return gram(4, 2, rule(0, 1, -1, 1, -2, 2), rule(1), rule(0, -2, -1), rule(2, 3, 0, 3), rule(0, 0))
}

// oddities: grammars that are not right, each in its own way, and some that are.
func oddities() []api.Grammar {
	out := []api.Grammar{{}, ordinary(), {Rules: make([]api.Rule, 3)}}
	for _, n := range []int{math.MinInt, -1000, -1, 0, 1, 1000, math.MaxInt} {
		out = append(out,
			api.Grammar{Vars: n, Terms: 1, Rules: []api.Rule{rule(0, 0)}},
			api.Grammar{Vars: 1, Terms: n, Rules: []api.Rule{rule(0, -1)}},
			api.Grammar{Vars: 1, Terms: 1, Start: n, Rules: []api.Rule{rule(0)}},
			api.Grammar{Vars: n, Terms: n, Start: n, Rules: []api.Rule{rule(n, n, n)}},
			gram(2, 2, rule(0), rule(n), rule(1)),
			gram(2, 2, rule(0), rule(0, -1, n, 1), rule(n, n), rule(1)),
			gram(2, 2, rule(1), times(1000, n), times(11, n), times(10, n)))
	}
	return append(out, gram(1, 0, slices.Repeat([]api.Rule{rule(0, 0, -1)}, 1000)...))
}

// Ordinary grammars.

func TestCheckOfOrdinaryGrammars(t *testing.T) {
	wantFine(t, ordinary())
	wantFine(t, gram(1, 0))
	wantFine(t, gram(1, 0, rule(0)))
	wantFine(t, gram(1, 0, rule(0, 0)))
	wantFine(t, gram(1, 1, rule(0, -1)))
	wantFine(t, gram(1, 2, rule(0, 0, -1), rule(0, -2)))
	wantFine(t, gram(1, 1, rule(0, 0, 0), rule(0, -1)))
}

// A grammar may have nonterminals without rules, ones that nothing leads to, and one rule twice.
func TestCheckAsksNoMoreOfAGrammar(t *testing.T) {
	wantFine(t, gram(5, 5))
	wantFine(t, api.Grammar{Vars: 3, Start: 2, Rules: []api.Rule{rule(0, 1)}})
	wantFine(t, gram(2, 1, rule(1, 1), rule(1, 1)))
	wantFine(t, gram(2, 1, rule(1), rule(0), rule(1), rule(0)))
}

// P5.1: Vars, Terms and Start.

func TestCheckOfVars(t *testing.T) {
	for n := -3; n <= api.MaxVars+3; n++ {
		code, at := 0, 0
		if n < 1 || n > 64 {
			code, at = api.ErrRange, -1
		}
		wantFault(t, gram(n, 0), code, at)
		wantFault(t, gram(n, api.MaxTerms, rule(0, 0)), code, at)
	}
	for _, n := range []int{math.MinInt, math.MinInt + 1, math.MinInt32, -64, 65 + 1<<32, math.MaxInt32, math.MaxInt} {
		wantFault(t, gram(n, 0), api.ErrRange, -1)
	}
}

func TestCheckOfTerms(t *testing.T) {
	for n := -3; n <= api.MaxTerms+3; n++ {
		code, at := 0, 0
		if n < 0 || n > 16 {
			code, at = api.ErrRange, -1
		}
		wantFault(t, gram(1, n), code, at)
		wantFault(t, gram(api.MaxVars, n, rule(0, 0)), code, at)
	}
	for _, n := range []int{math.MinInt, math.MinInt + 1, -16, 1 << 32, math.MaxInt} {
		wantFault(t, gram(1, n), api.ErrRange, -1)
	}
}

func TestCheckOfStart(t *testing.T) {
	for _, vars := range []int{1, 2, 63, 64} {
		for start := -3; start <= vars+3; start++ {
			code, at := 0, 0
			if start < 0 || start >= vars {
				code, at = api.ErrRange, -1
			}
			wantFault(t, api.Grammar{Vars: vars, Start: start}, code, at)
			wantFault(t, api.Grammar{Vars: vars, Terms: 16, Start: start, Rules: []api.Rule{rule(0, -1)}}, code, at)
		}
	}
	for _, start := range []int{math.MinInt, math.MaxInt, 1 << 32} {
		wantFault(t, api.Grammar{Vars: 64, Start: start}, api.ErrRange, -1)
	}
	// Vars - 1 must not wrap round.
	wantFault(t, api.Grammar{Vars: math.MinInt, Start: math.MaxInt}, api.ErrRange, -1)
	wantFault(t, api.Grammar{Vars: math.MinInt, Start: 5}, api.ErrRange, -1)
}

// P5.1: how many rules.

func TestCheckOfManyRules(t *testing.T) {
	for n := range api.MaxRules + 3 {
		code, at := 0, 0
		if n > 160 {
			code, at = api.ErrMany, -1
		}
		wantFault(t, gram(1, 0, slices.Repeat([]api.Rule{rule(0)}, n)...), code, at)
		wantFault(t, gram(2, 1, slices.Repeat([]api.Rule{rule(1, 0, -1)}, n)...), code, at)
	}
	wantFault(t, gram(1, 0, make([]api.Rule, 1<<20)...), api.ErrMany, -1)
}

func TestCheckTellsRangeAheadOfManyRules(t *testing.T) {
	many := make([]api.Rule, api.MaxRules+1)
	wantFault(t, gram(0, 0, many...), api.ErrRange, -1)
	wantFault(t, gram(65, 0, many...), api.ErrRange, -1)
	wantFault(t, gram(1, -1, many...), api.ErrRange, -1)
	wantFault(t, gram(1, 17, many...), api.ErrRange, -1)
	wantFault(t, api.Grammar{Vars: 1, Start: 1, Rules: many}, api.ErrRange, -1)
}

func TestCheckTellsTheWholeAheadOfTheRules(t *testing.T) {
	for _, odd := range []api.Rule{rule(-1), rule(9), rule(0, 9), rule(0, -9), times(11, 0), times(11, 9)} {
		wantFault(t, gram(0, 1, odd), api.ErrRange, -1)
		wantFault(t, gram(2, 17, odd), api.ErrRange, -1)
		wantFault(t, api.Grammar{Vars: 2, Terms: 1, Start: -1, Rules: []api.Rule{odd}}, api.ErrRange, -1)
		wantFault(t, gram(2, 1, slices.Repeat([]api.Rule{odd}, 160)...), Check(gram(2, 1, odd)).Code, 0)
		wantFault(t, gram(2, 1, slices.Repeat([]api.Rule{odd}, 161)...), api.ErrMany, -1)
	}
}

// P5.1: how many symbols.

func TestCheckOfManySymbols(t *testing.T) {
	for n := range 2 * api.MaxRight {
		for _, s := range []int{0, 1, -1, -2} {
			code, first, third := 0, 0, 0
			if n > 10 {
				code, third = api.ErrMany, 2
			}
			wantFault(t, gram(2, 2, times(n, s)), code, first)
			wantFault(t, gram(2, 2, rule(1), rule(1, -1), times(n, s), rule(0)), code, third)
		}
	}
	wantFault(t, gram(1, 0, times(1<<20, 0)), api.ErrMany, 0)
}

func TestCheckTellsManySymbolsAheadOfRange(t *testing.T) {
	wantFault(t, gram(1, 0, times(11, 1)), api.ErrMany, 0)
	wantFault(t, gram(1, 0, times(10, 1)), api.ErrRange, 0)
	long := times(11, 0)
	long.Left = 1
	wantFault(t, gram(1, 0, long), api.ErrMany, 0)
	wantFault(t, gram(2, 0, long), api.ErrMany, 0)
	wantFault(t, gram(1, 0, rule(0), rule(0), long), api.ErrMany, 2)
}

// P5.1: Left and symbols.

func TestCheckOfLeft(t *testing.T) {
	for _, vars := range []int{1, 2, 63, 64} {
		for left := -17; left <= 66; left++ {
			code, first, third := 0, 0, 0
			if left < 0 || left >= vars {
				code, third = api.ErrRange, 2
			}
			// A terminal is none: however many of them there are.
			wantFault(t, gram(vars, 16, rule(left)), code, first)
			wantFault(t, gram(vars, 0, rule(0), rule(0, 0), rule(left, 0), rule(0)), code, third)
		}
	}
	for _, left := range []int{math.MinInt, math.MaxInt, 1 << 32} {
		wantFault(t, gram(64, 16, rule(left)), api.ErrRange, 0)
	}
}

func TestCheckOfSymbols(t *testing.T) {
	for _, size := range [][2]int{{1, 0}, {1, 1}, {2, 1}, {1, 16}, {64, 0}, {63, 15}, {64, 16}} {
		vars, terms := size[0], size[1]
		for s := -18; s <= 66; s++ {
			code, first, third := 0, 0, 0
			if s < -terms || s > vars-1 {
				code, third = api.ErrRange, 2
			}
			wantFault(t, gram(vars, terms, rule(0, s)), code, first)
			wantFault(t, gram(vars, terms, rule(0), rule(0, 0), rule(0, 0, s, 0), rule(0)), code, third)
		}
	}
	for _, s := range []int{math.MinInt, math.MaxInt, 1 << 32, -1 << 32} {
		wantFault(t, gram(64, 16, rule(0, s)), api.ErrRange, 0)
	}
}

func TestCheckOfEachSymbolOfARule(t *testing.T) {
	for n := 1; n <= api.MaxRight; n++ {
		for i := range n {
			for _, s := range []int{-3, 3} {
				r := times(n, -2)
				r.Right[i] = s
				wantFault(t, gram(3, 2, rule(1), r), api.ErrRange, 1)
				wantFine(t, gram(4, 3, rule(1), r))
			}
		}
	}
}

func TestCheckTellsTheFirstRule(t *testing.T) {
	odd := []api.Rule{rule(2), rule(-1, 0), rule(0, 2), rule(0, 0, -2), times(11, 0), times(11, 5)}
	for _, a := range odd {
		for _, b := range odd {
			code := Check(gram(2, 1, a)).Code
			wantFault(t, gram(2, 1, a, b), code, 0)
			wantFault(t, gram(2, 1, rule(1, -1), rule(0), a, rule(0, 1), b, a), code, 2)
		}
	}
	for i := range api.MaxRules {
		g := gram(2, 1, slices.Repeat([]api.Rule{rule(1, 0, -1)}, api.MaxRules)...)
		g.Rules[i] = rule(0, 2)
		wantFault(t, g, api.ErrRange, i)
		g.Rules[159] = times(11, 0)
		wantFault(t, g, Check(gram(2, 1, g.Rules[i])).Code, i)
	}
}

// Same.

func TestSameOfOrdinaryGrammars(t *testing.T) {
	wantSame(t, ordinary(), ordinary(), true)
	wantSame(t, api.Grammar{}, api.Grammar{}, true)
	wantSame(t, gram(1, 0), gram(1, 0), true)
	wantSame(t, gram(1, 0, rule(0)), gram(1, 0, rule(0)), true)
}

func TestSameHoldsEachNumber(t *testing.T) {
	for _, change := range []func(g *api.Grammar){
		func(g *api.Grammar) { g.Vars++ },
		func(g *api.Grammar) { g.Vars = -g.Vars },
		func(g *api.Grammar) { g.Terms++ },
		func(g *api.Grammar) { g.Terms = -g.Terms },
		func(g *api.Grammar) { g.Start++ },
		func(g *api.Grammar) { g.Start = -1 },
		func(g *api.Grammar) { g.Vars, g.Terms = g.Terms, g.Vars },
		func(g *api.Grammar) { g.Rules = nil },
		func(g *api.Grammar) { g.Rules = g.Rules[1:] },
		func(g *api.Grammar) { g.Rules = g.Rules[:4] },
		func(g *api.Grammar) { g.Rules = append(g.Rules, rule(0)) },
		func(g *api.Grammar) { g.Rules = append(g.Rules, g.Rules[4]) },
		func(g *api.Grammar) { slices.Reverse(g.Rules) },
		func(g *api.Grammar) { g.Rules[1], g.Rules[2] = g.Rules[2], g.Rules[1] },
		func(g *api.Grammar) { g.Rules[1].Left = 0 },
		func(g *api.Grammar) { g.Rules[4].Left = 1 },
		func(g *api.Grammar) { g.Rules[0].Right = nil },
		func(g *api.Grammar) { g.Rules[1].Right = []int{0} },
		func(g *api.Grammar) { g.Rules[0].Right[0] = 2 },
		func(g *api.Grammar) { g.Rules[0].Right[4] = -1 },
		func(g *api.Grammar) { g.Rules[4].Right[0] = -1 },
		func(g *api.Grammar) { g.Rules[0].Right = g.Rules[0].Right[:4] },
		func(g *api.Grammar) { g.Rules[0].Right = g.Rules[0].Right[1:] },
		func(g *api.Grammar) { g.Rules[0].Right = append(g.Rules[0].Right, 0) },
		func(g *api.Grammar) { slices.Reverse(g.Rules[0].Right) },
		func(g *api.Grammar) { slices.Sort(g.Rules[2].Right); slices.Reverse(g.Rules[2].Right) },
	} {
		g := ordinary()
		change(&g)
		wantSame(t, ordinary(), g, false)
		wantSame(t, g, g, true)
	}
}

// Where the symbols of two rules are the same in all, but not rule by rule, the grammars are not.
func TestSameIsRuleByRule(t *testing.T) {
	wantSame(t, gram(1, 0, rule(0, 0), rule(0)), gram(1, 0, rule(0), rule(0, 0)), false)
	wantSame(t, gram(1, 0, rule(0, 0, 0), rule(0)), gram(1, 0, rule(0, 0), rule(0, 0)), false)
	wantSame(t, gram(2, 0, rule(0), rule(1)), gram(2, 0, rule(1), rule(0)), false)
	wantSame(t, gram(1, 0, rule(0)), gram(1, 0, rule(0), rule(0)), false)
}

func TestSameOfListsWithoutElements(t *testing.T) {
	none := [][]api.Rule{nil, {}, {rule(1)}, make([]api.Rule, 0, 5)}
	none[2] = none[2][:0]
	for _, a := range none {
		for _, b := range none {
			wantSame(t, gram(1, 0, a...), gram(1, 0, b...), true)
		}
	}
	empty := [][]int{nil, {}, []int{1}[:0], make([]int, 0, 5)}
	for _, a := range empty {
		for _, b := range empty {
			wantSame(t, gram(1, 0, rule(0, a...)), gram(1, 0, rule(0, b...)), true)
		}
		wantSame(t, gram(1, 0, rule(0, a...)), gram(1, 0), false)
	}
}

// told: grammars are the same, if they are told alike: a list that is nil is told as one that is empty.
func told(a, b api.Grammar) bool { return fmt.Sprint(a) == fmt.Sprint(b) }

func TestSameOfWhateverGrammars(t *testing.T) {
	all := oddities()
	for _, a := range all {
		for _, b := range all {
			wantSame(t, a, b, told(a, b))
		}
	}
}

// Own.

func TestOwnOfWhateverGrammars(t *testing.T) {
	for _, g := range oddities() {
		wantOwn(t, g)
		wantSame(t, g, Own(g), true)
		if Check(g) != Check(Own(g)) {
			t.Errorf("Own(%s) has another fault", brief(g))
		}
	}
	wantOwn(t, gram(1, 0, rule(0, []int{}...)))
	wantOwn(t, gram(1, 0, []api.Rule{}...))
	wantOwn(t, gram(1, 0, make([]api.Rule, 100000)...))
	wantOwn(t, gram(1, 0, times(100000, 7)))
}

// wipe writes over all that lies in the lists of a grammar, behind their lengths, too.
func wipe(g api.Grammar) {
	for _, r := range g.Rules[:cap(g.Rules)] {
		for i := range r.Right[:cap(r.Right)] {
			r.Right[:cap(r.Right)][i] = 77
		}
	}
	clear(g.Rules[:cap(g.Rules)])
}

func TestOwnHasMemoryOfItsOwn(t *testing.T) {
	for i := range oddities() {
		g := oddities()[i]
		mine := Own(g)
		before := fmt.Sprint(g)
		wipe(mine)
		if fmt.Sprint(g) != before {
			t.Errorf("what was handed in became %s, was %s", brief(g), brief(before))
		}
		mine = Own(g)
		wipe(g)
		if fmt.Sprint(mine) != before {
			t.Errorf("what was answered became %s, was %s", brief(mine), brief(before))
		}
	}
}

// What is handed in may share memory, what is answered may not: not even behind the lengths of its lists.
func TestOwnSharesNothingWithinItself(t *testing.T) {
	lain := []int{1, 0, -1, 0, 1}
	g := gram(2, 1, rule(0, lain...), rule(1, lain...), rule(0, lain[:2]...), rule(0, lain[2:]...), rule(1, lain[:0]...), rule(1, lain[1:4]...))
	want := fmt.Sprint(g)
	for i := range g.Rules {
		mine := Own(g)
		if fmt.Sprint(mine) != want {
			t.Fatalf("Own(%s): %s", want, brief(mine))
		}
		wipe(api.Grammar{Rules: []api.Rule{mine.Rules[i]}})
		for j := range g.Rules {
			if j != i && fmt.Sprint(mine.Rules[j]) != fmt.Sprint(g.Rules[j]) {
				t.Errorf("rule %d shares memory with rule %d", j, i)
			}
		}
	}
}

// Kids.

func TestKidsOfOrdinaryRules(t *testing.T) {
	wantKids(t, rule(0))
	wantKids(t, rule(0, -1, -2, -1))
	wantKids(t, rule(0, 0), 0)
	wantKids(t, rule(0, 1, -1, 1), 1, 1)
	wantKids(t, rule(0, 3, 1, 2), 3, 1, 2)
	wantKids(t, rule(0, -1, 2, -2, 0, 2, -1, 2, -3), 2, 0, 2, 2)
	wantKids(t, rule(5, -1, 0), 0)
	wantKids(t, rule(0, 63, -16), 63)
	wantKids(t, times(10, 4), slices.Repeat([]int{4}, 10)...)
}

func TestKidsOfWhateverRules(t *testing.T) {
	wantKids(t, api.Rule{Right: []int{}})
	wantKids(t, rule(math.MinInt))
	wantKids(t, rule(-5, 7, -7), 7)
	wantKids(t, rule(0, math.MaxInt, math.MinInt, 64, -17, 1000, -1, 0), math.MaxInt, 64, 1000, 0)
	wantKids(t, times(100000, 65), slices.Repeat([]int{65}, 100000)...)
	wantKids(t, times(100000, -65))
}

// By.

func TestByOfOrdinaryGrammars(t *testing.T) {
	g := ordinary()
	wantBy(t, g, 0, 0, 2, 4)
	wantBy(t, g, 1, 1)
	wantBy(t, g, 2, 3)
	wantBy(t, g, 3)
	wantBy(t, gram(1, 0), 0)
	wantBy(t, gram(1, 0, rule(0), rule(0), rule(0)), 0, 0, 1, 2)
	wantBy(t, gram(2, 0, rule(1, 0), rule(1, 0), rule(0, 1)), 0, 2)
}

func TestByOfWhateverNumber(t *testing.T) {
	for _, v := range []int{math.MinInt, -2, -1, 4, 5, 64, math.MaxInt} {
		wantBy(t, ordinary(), v)
		wantBy(t, api.Grammar{}, v)
		// What is no nonterminal may be a Left all the same, of grammars that are not right.
		wantBy(t, gram(2, 2, rule(0, v), rule(v), rule(1, v, v), rule(v, 0)), v, 1, 3)
		wantBy(t, api.Grammar{Vars: v, Terms: v, Start: v, Rules: []api.Rule{rule(v, v), rule(v)}}, v, 0, 1)
	}
}

func TestByOfWhateverGrammars(t *testing.T) {
	for _, g := range oddities() {
		for _, v := range []int{math.MinInt, -1000, -1, 0, 1, 2, 1000, math.MaxInt} {
			wantBy(t, g, v, numbers(g, v)...)
		}
	}
	many := gram(1, 0, make([]api.Rule, 100000)...)
	many.Rules[99998].Left = 1
	wantBy(t, many, 1, 99998)
	if got := By(many, 0); len(got) != 99999 || got[99997] != 99997 || got[99998] != 99999 {
		t.Errorf("%d rules", len(got))
	}
}

// numbers tells By in another way: from behind.
func numbers(g api.Grammar, v int) (out []int) {
	for i := len(g.Rules); i > 0; i-- {
		if g.Rules[i-1].Left == v {
			out = slices.Insert(out, 0, i-1)
		}
	}
	return out
}

// Grammars made up, held against other ways to tell the same.

// span lists the numbers from low to high.
func span(low, high int) (out []int) {
	for n := low; n <= high; n++ {
		out = append(out, n)
	}
	return out
}

// judge tells Check's fault by all that is wrong: it goes from behind, so that the last one it finds is the first.
func judge(g api.Grammar) (f api.Fault) {
	sized := slices.Contains(span(1, 64), g.Vars) && slices.Contains(span(0, 16), g.Terms)
	if !sized || !slices.Contains(span(0, g.Vars-1), g.Start) {
		return api.Fault{Code: api.ErrRange, At: -1}
	}
	if len(g.Rules) > 160 {
		return api.Fault{Code: api.ErrMany, At: -1}
	}
	vars := span(0, g.Vars-1)
	symbols := append(span(-g.Terms, -1), vars...)
	for i := len(g.Rules) - 1; i >= 0; i-- {
		r := g.Rules[i]
		for _, s := range r.Right {
			if !slices.Contains(symbols, s) {
				f = api.Fault{Code: api.ErrRange, At: i}
			}
		}
		if !slices.Contains(vars, r.Left) {
			f = api.Fault{Code: api.ErrRange, At: i}
		}
		if len(r.Right) > 10 {
			f = api.Fault{Code: api.ErrMany, At: i}
		}
	}
	return f
}

// kids tells Kids in another way: by leaving out what is none.
func kids(r api.Rule) []int {
	return slices.DeleteFunc(slices.Clone(r.Right), func(s int) bool { return s < 0 })
}

func holdAgainstJudge(t *testing.T, g api.Grammar) api.Fault {
	t.Helper()
	f := judge(g)
	wantFault(t, g, f.Code, f.At)
	wantOwn(t, g)
	wantSame(t, g, Own(g), true)
	for i, r := range g.Rules {
		wantKids(t, r, kids(r)...)
		if !slices.Contains(By(g, r.Left), i) {
			t.Errorf("By(%s, %d) has no %d", brief(g), r.Left, i)
		}
	}
	for v := -2; v <= 6; v++ {
		wantBy(t, g, v, numbers(g, v)...)
	}
	return f
}

// maker makes up grammars: of a thousand numbers so many are wild, which may be one more or less than they should.
type maker struct {
	*rand.Rand
	wild int
}

func (m *maker) number(low, high int) int {
	n := low + m.Intn(high-low+1)
	if m.Intn(1000) < m.wild {
		n = []int{low - 1, low, high, high + 1}[m.Intn(4)]
	}
	return n
}

func (m *maker) grammar() api.Grammar {
	g := api.Grammar{Vars: m.number(1, 64), Terms: m.number(0, 16)}
	if m.Intn(2) == 0 {
		g.Vars, g.Terms = m.number(1, 3), m.number(0, 2)
	}
	vars, terms := max(g.Vars, 1), max(g.Terms, 0)
	g.Start = m.number(0, vars-1)
	for range max(m.number(0, []int{5, 20, 160}[m.Intn(3)]), 0) {
		r := api.Rule{Left: m.number(0, vars-1)}
		for range max(m.number(0, 10), 0) {
			r.Right = append(r.Right, m.number(-terms, vars-1))
		}
		g.Rules = append(g.Rules, r)
	}
	return g
}

func TestGrammarsMadeUp(t *testing.T) {
	seen := map[api.Fault]int{}
	for _, wild := range []int{0, 2, 50, 500} {
		m := &maker{Rand: rand.New(rand.NewSource(int64(5 + wild))), wild: wild}
		for range 1000 {
			f := holdAgainstJudge(t, m.grammar())
			f.At = min(f.At, 1)
			seen[f]++
			if t.Failed() {
				return
			}
		}
	}
	for _, f := range []api.Fault{{}, {Code: api.ErrRange, At: -1}, {Code: api.ErrMany, At: -1}, {Code: api.ErrMany, At: 0}, {Code: api.ErrMany, At: 1}, {Code: api.ErrRange, At: 0}, {Code: api.ErrRange, At: 1}} {
		if seen[f] < 10 {
			t.Errorf("fault %v was told %d times alone", f, seen[f])
		}
	}
}

// Grammars that differ in a number or none.
func TestGrammarsMadeUpInPairs(t *testing.T) {
	m := &maker{Rand: rand.New(rand.NewSource(9)), wild: 20}
	for range 2000 {
		a := m.grammar()
		b := Own(a)
		if len(b.Rules) > 0 {
			r := &b.Rules[m.Intn(len(b.Rules))]
			r.Left = m.number(0, 1)
			if len(r.Right) > 0 {
				r.Right[m.Intn(len(r.Right))] = m.number(-1, 1)
			}
		}
		wantSame(t, a, b, told(a, b))
	}
}

// read makes a grammar of bytes, whatever they are: each is a number, the symbols of a rule stand behind how many there are.
func read(data []byte) (g api.Grammar) {
	next := func() int {
		if len(data) == 0 {
			return 0
		}
		n := int(int8(data[0]))
		data = data[1:]
		return n
	}
	g.Vars, g.Terms, g.Start = next(), next(), next()
	for len(data) > 0 {
		r := api.Rule{Left: next()}
		for range max(next(), 0) {
			r.Right = append(r.Right, next())
		}
		g.Rules = append(g.Rules, r)
	}
	return g
}

func FuzzGram(f *testing.F) {
	f.Add([]byte{2, 1, 0, 0, 3, 1, 255, 1, 1, 0, 0, 1, 0})
	f.Add([]byte{64, 16, 63, 63, 2, 63, 240, 0, 11, 0})
	f.Add([]byte{0})
	f.Fuzz(func(t *testing.T, data []byte) { holdAgainstJudge(t, read(data)) })
}

// What holds everywhere: what is handed in stays, and what is answered is new.

// roomy lays the lists of a grammar anew, with something behind the length of each.
func roomy(g api.Grammar) api.Grammar {
	rules := make([]api.Rule, 0, len(g.Rules)+2)
	for _, r := range g.Rules {
		right := append(make([]int, 0, len(r.Right)+2), r.Right...)
		right[:cap(right)][len(right)] = 5
		rules = append(rules, api.Rule{Left: r.Left, Right: right})
	}
	rules[:cap(rules)][len(rules)] = rule(0, 5, -5)
	g.Rules = rules
	return g
}

// memory tells all that lies in the lists of a grammar, behind their lengths, too.
func memory(g api.Grammar) (out []int) {
	out = append(out, g.Vars, g.Terms, g.Start, len(g.Rules), cap(g.Rules))
	for _, r := range g.Rules[:cap(g.Rules)] {
		out = append(out, r.Left, len(r.Right), cap(r.Right))
		out = append(out, r.Right[:cap(r.Right)]...)
	}
	return out
}

func TestNothingIsChanged(t *testing.T) {
	m := &maker{Rand: rand.New(rand.NewSource(10)), wild: 5}
	for range 300 {
		g, h := roomy(m.grammar()), roomy(m.grammar())
		before := [][]int{memory(g), memory(h)}
		holdAgainstJudge(t, g)
		wantSame(t, g, h, told(g, h))
		if !reflect.DeepEqual([][]int{memory(g), memory(h)}, before) {
			t.Fatalf("it was changed: %v, %v", g, h)
		}
	}
}

func TestNothingBehindAListIsRead(t *testing.T) {
	with := func(odd int) api.Grammar {
		long := slices.Repeat([]int{odd}, 20)
		copy(long, []int{0, -1, 1})
		rules := slices.Repeat([]api.Rule{rule(odd, odd)}, 200)
		rules[0], rules[1] = rule(0, long[:3]...), rule(1, []int{odd}[:0]...)
		return api.Grammar{Vars: 2, Terms: 1, Rules: rules[:2]}
	}
	for _, odd := range []int{-2, -1, 0, 1, 2} {
		g := with(odd)
		wantFine(t, g)
		wantSame(t, g, gram(2, 1, rule(0, 0, -1, 1), rule(1)), true)
		wantOwn(t, g)
		wantKids(t, g.Rules[0], 0, 1)
		wantKids(t, g.Rules[1])
		wantBy(t, g, 0, 0)
		wantBy(t, g, 1, 1)
		wantBy(t, g, odd, numbers(g, odd)...)
	}
}

func TestWhatIsAnsweredIsNew(t *testing.T) {
	g := ordinary()
	for _, ask := range []func() []int{func() []int { return Kids(g.Rules[3]) }, func() []int { return By(g, 0) }} {
		want := slices.Clone(ask())
		got := ask()
		clear(got[:cap(got)])
		if again := ask(); !slices.Equal(again, want) {
			t.Errorf("asked again: %v, want %v", again, want)
		}
		wantSame(t, g, ordinary(), true)
	}
	// All symbols of a rule are nonterminals: the list may not be the rule's own.
	r := rule(0, 1, 2, 3)
	clear(Kids(r))
	wantKids(t, r, 1, 2, 3)
	got := Kids(r)
	clear(r.Right)
	if !slices.Equal(got, []int{1, 2, 3}) {
		t.Errorf("what was answered became %v", got)
	}
}

// P1: whatever it is given.

func TestCheckOfWhateverGrammars(t *testing.T) {
	for _, g := range oddities() {
		f := judge(g)
		wantFault(t, g, f.Code, f.At)
	}
}
