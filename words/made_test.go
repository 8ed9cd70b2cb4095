package words

import (
	"math/rand"
	"reflect"
	"slices"
	"testing"

	"graftwork/api"
	"graftwork/chart"
	"graftwork/gram"
)

// A second way: each word is tried, whether it has a tree.

// all answers all words of so many terminals at most, in the order.
func all(terms, most int) (out [][]int) {
	row := [][]int{nil}
	for range most {
		out = append(out, row...)
		var longer [][]int
		for _, w := range row {
			for t := range terms {
				longer = append(longer, append(slices.Clone(w), t))
			}
		}
		row = longer
	}
	return append(out, row...)
}

// parts tells of each nonterminal, and of the parts of a word from a place to ahead of another one, whether it has a tree with that part.
type parts [api.MaxVars][api.MaxLong + 1][api.MaxLong + 1]bool

// partsOf asks the rules till nothing more comes.
func partsOf(g api.Grammar, w []int) *parts {
	var has parts
	for more := true; more; {
		more = false
		for _, r := range g.Rules {
			for i := range len(w) + 1 {
				for j, ends := range has.ends(r.Right, w, i) {
					if ends && !has[r.Left][i][j] {
						has[r.Left][i][j], more = true, true
					}
				}
			}
		}
	}
	return &has
}

// ends tells where symbols may end that stand for a part of w from i on.
func (has *parts) ends(right, w []int, i int) (at [api.MaxLong + 1]bool) {
	at[i] = true
	for _, s := range right {
		var next [api.MaxLong + 1]bool
		for m := range len(w) + 1 {
			for j := m; at[m] && j <= len(w); j++ {
				if s >= 0 && has[s][m][j] || s < 0 && j == m+1 && w[m] == -1-s {
					next[j] = true
				}
			}
		}
		at = next
	}
	return at
}

// tried answers the words of each nonterminal.
func tried(g api.Grammar, most int) [][][]int {
	words := make([][][]int, g.Vars)
	for _, w := range all(g.Terms, most) {
		has := partsOf(g, w)
		for v := range words {
			if has[v][0][len(w)] {
				words[v] = append(words[v], w)
			}
		}
	}
	return words
}

// tooMany: has one of them too many?
func tooMany(words [][][]int) bool {
	return slices.ContainsFunc(words, func(l [][]int) bool { return len(l) > api.MaxWords })
}

// judge tells the fault that a right way tells, or none.
func judge(g api.Grammar, most int, words [][][]int) api.Fault {
	if f := gram.Check(g); f.Code != 0 {
		return f
	}
	if most < 0 || most > api.MaxLong {
		return fault(api.ErrRange, -1)
	}
	if tooMany(words) {
		return fault(api.ErrMany, -1)
	}
	return api.Fault{}
}

// hold holds List against the second way, from each Start, and answers the words of each nonterminal.
func hold(t *testing.T, g api.Grammar, most int) [][][]int {
	t.Helper()
	words := tried(g, most)
	for v := range g.Vars {
		g.Start = v
		if tooMany(words) {
			wantFault(t, g, most, api.ErrMany, -1)
		} else {
			wantWords(t, g, most, tell(words[v]))
		}
	}
	return words
}

// Grammars that are made up.

type dice struct {
	*rand.Rand
	wild int // one number of so many is any
}

func (d *dice) number(low, high int) int {
	if d.wild > 0 && d.Intn(d.wild) == 0 {
		return low - 2 + d.Intn(high-low+5)
	}
	return low + d.Intn(high-low+1)
}

func (d *dice) grammar(vars, terms, rules, right int) api.Grammar {
	g := api.Grammar{Vars: d.number(1, vars), Terms: d.number(terms/2, terms)}
	g.Start = d.number(0, max(g.Vars, 1)-1)
	for range 1 + d.Intn(rules) {
		r := rule(d.number(0, max(g.Vars, 1)-1))
		for range d.Intn(right + 1) {
			r.Right = append(r.Right, d.number(-max(g.Terms, 0), max(g.Vars, 1)-1))
		}
		g.Rules = append(g.Rules, r)
	}
	// One nonterminal is each terminal, at times, and one goes on by it: else few have many words.
	if d.Intn(3) == 0 {
		v, on := d.number(0, max(g.Vars, 1)-1), d.number(0, max(g.Vars, 1)-1)
		g.Rules = append(g.Rules, rule(on, v, on))
		for t := range g.Terms {
			g.Rules = append(g.Rules, rule(v, -1-t))
		}
	}
	return g
}

// All grammars of two nonterminals, two terminals, and up to three rules of up to two symbols.
func TestAllSmallGrammars(t *testing.T) {
	var rules []api.Rule
	symbols := []int{-2, -1, 0, 1}
	for left := range 2 {
		rules = append(rules, rule(left))
		for _, a := range symbols {
			rules = append(rules, rule(left, a))
			for _, b := range symbols {
				rules = append(rules, rule(left, a, b))
			}
		}
	}
	g := api.Grammar{Vars: 2, Terms: 2}
	for i, a := range rules {
		for j, b := range rules[:i+1] {
			for _, c := range rules[:j+1] {
				g.Rules = []api.Rule{a, b, c}
				hold(t, g, 3)
			}
		}
	}
}

// shapes: how many nonterminals, terminals, rules, symbols of a rule, and terminals of a word.
var shapes = [][5]int{
	{3, 2, 6, 3, 4},
	{4, 2, 10, 3, 5},
	{2, 3, 8, 4, 4},
	{3, 7, 24, 3, 3},
	{2, 7, 6, 3, 3},
	{5, 3, 12, 2, 4},
	{3, 16, 30, 3, 2},
	{2, 1, 5, 10, 6},
	{6, 1, 14, 4, 6},
	{3, 0, 6, 3, 6},
}

func TestGrammarsMadeUp(t *testing.T) {
	d := &dice{Rand: rand.New(rand.NewSource(1))}
	seen := map[int]int{}
	for _, s := range shapes {
		for range 400 {
			g := d.grammar(s[0], s[1], s[2], s[3])
			words := hold(t, g, s[4])
			for v := range words {
				n := len(words[v])
				seen[min(n, 3)]++
				if n > 20 {
					seen[20]++
				}
			}
			if tooMany(words) {
				seen[300]++
			}
		}
	}
	for n, least := range map[int]int{0: 1000, 1: 1000, 2: 300, 3: 1000, 20: 300, 300: 30} {
		if seen[n] < least {
			t.Errorf("only %d nonterminals with %d words (3: or more; 20: more than that; 300: grammars in which one has too many)", seen[n], n)
		}
	}
}

// Near the bound: words of three letters, so many of each length that there are nearly too many, or just so.
func TestManyWordsMadeUp(t *testing.T) {
	d := &dice{Rand: rand.New(rand.NewSource(2))}
	fine, many := 0, 0
	for range 600 {
		g := api.Grammar{Vars: 3, Terms: 3, Rules: []api.Rule{rule(2, -1), rule(2, -2), rule(2, -3), rule(1, 2, 2), rule(1, 2)}}
		for range 2 + d.Intn(5) {
			r := rule(0)
			for range 1 + d.Intn(3) {
				r.Right = append(r.Right, -3+d.Intn(6))
			}
			g.Rules = append(g.Rules, r)
		}
		words := hold(t, g, 5)
		if n := len(words[0]); n > 200 && n <= api.MaxWords {
			fine++
		} else if n > api.MaxWords {
			many++
		}
	}
	if fine < 20 || many < 20 {
		t.Errorf("only %d with nearly too many words, %d with too many", fine, many)
	}
}

// Where nothing leads to itself alone, a chart tells which words have trees.
func TestAsTheChartTells(t *testing.T) {
	d := &dice{Rand: rand.New(rand.NewSource(3))}
	for seen := 0; seen < 1500; {
		g := d.grammar(4, 2, 9, 3)
		if _, f := chart.New(g, nil); f.Code != 0 {
			continue
		}
		seen++
		var want [][]int
		for _, w := range all(g.Terms, 5) {
			if c, f := chart.New(g, w); f.Code != 0 {
				t.Fatalf("%v, %v: fault %v", g, w, f)
			} else if c.Count() > 0 {
				want = append(want, w)
			}
		}
		wantWords(t, g, 5, tell(want))
	}
}

// What makes no difference: in which order the rules stand, and how often; what is asked for more terminals begins with what is asked for fewer.
func TestWhatMakesNoDifference(t *testing.T) {
	d := &dice{Rand: rand.New(rand.NewSource(4))}
	for range 800 {
		g := d.grammar(12, 3, 40, 4)
		var before string
		for most := range api.MaxLong + 1 {
			list, f := List(g, most)
			again, same := List(g, most)
			other := g
			other.Rules = append(slices.Clone(g.Rules), g.Rules[d.Intn(len(g.Rules))])
			d.Shuffle(len(other.Rules), func(i, j int) { other.Rules[i], other.Rules[j] = other.Rules[j], other.Rules[i] })
			turned, too := List(other, most)
			if f != same || f != too || !reflect.DeepEqual(list, again) || !reflect.DeepEqual(list, turned) {
				t.Fatalf("%v, %d: %s, fault %v; %s, fault %v; %s, fault %v", g, most, tell(list), f, tell(again), same, tell(turned), too)
			}
			if f.Code != 0 {
				if f != fault(api.ErrMany, -1) {
					t.Fatalf("%v, %d: fault %v", g, most, f)
				}
				break
			}
			var shorter [][]int
			for _, w := range list {
				if len(w) < most {
					shorter = append(shorter, w)
				}
			}
			if tell(shorter) != before && most > 0 {
				t.Fatalf("%v, %d: %s, and of one terminal fewer: %s", g, most, tell(list), before)
			}
			before = tell(list)
		}
	}
}

// Grammars as great as they may be.
func TestGreatGrammarsMadeUp(t *testing.T) {
	d := &dice{Rand: rand.New(rand.NewSource(5))}
	seen := map[int]int{}
	for range 150 {
		g := api.Grammar{Vars: api.MaxVars, Terms: 2}
		right := 1 + d.Intn(api.MaxRight)
		for range api.MaxRules {
			r := rule(d.Intn(api.MaxVars))
			for range 1 + d.Intn(right) {
				r.Right = append(r.Right, d.number(-g.Terms, api.MaxVars-1))
			}
			// Few have few symbols: else most have no word.
			if d.Intn(3) == 0 {
				r.Right = []int{d.number(-g.Terms, -1)}
			}
			g.Rules = append(g.Rules, r)
		}
		for _, l := range hold(t, g, 4) {
			seen[min(len(l), 10)]++
		}
	}
	if seen[0] < 100 || seen[10] < 100 {
		t.Errorf("only %d nonterminals without words, %d with many", seen[0], seen[10])
	}
}

// P1: whatever is handed in.
func TestFaultsMadeUp(t *testing.T) {
	seen := map[api.Fault]int{}
	for _, wild := range []int{5, 20, 100} {
		d := &dice{rand.New(rand.NewSource(6)), wild}
		for range 3000 {
			g := d.grammar(3, 7, 8, 4)
			most := d.number(0, 3)
			var words [][][]int
			if f := gram.Check(g); f.Code == 0 && most >= 0 && most <= api.MaxLong {
				words = tried(g, min(most, 4))
				most = min(most, 4)
			}
			f := judge(g, most, words)
			if seen[fault(f.Code, min(f.At, 1))]++; f.Code != 0 {
				wantFault(t, g, most, f.Code, f.At)
			} else {
				wantWords(t, g, most, tell(words[g.Start]))
			}
		}
	}
	for _, f := range []api.Fault{{}, fault(api.ErrRange, -1), fault(api.ErrRange, 0), fault(api.ErrRange, 1), fault(api.ErrMany, -1)} {
		if seen[f] < 20 {
			t.Errorf("fault %v was told %d times alone", f, seen[f])
		}
	}
}

// decode makes a grammar and a number of bytes, whatever they are: each is a number; how many symbols there are stands ahead of them.
func decode(data []byte) (g api.Grammar, most int) {
	next := func() int {
		if len(data) == 0 {
			return 0
		}
		n := int(int8(data[0]))
		data = data[1:]
		return n
	}
	g.Vars, g.Terms, g.Start, most = next(), next(), next(), next()
	for len(data) > 0 {
		r := rule(next())
		for range max(next(), 0) {
			r.Right = append(r.Right, next())
		}
		g.Rules = append(g.Rules, r)
	}
	return g, most
}

func FuzzWords(f *testing.F) {
	f.Add([]byte{1, 1, 0, 4, 0, 2, 0, 0, 0, 1, 255})
	f.Add([]byte{2, 2, 0, 3, 0, 3, 1, 255, 1, 1, 0, 1, 1, 254})
	f.Add([]byte{1, 3, 0, 5, 0, 2, 0, 255, 0, 2, 0, 254, 0, 2, 0, 253, 0, 0})
	f.Add([]byte{64, 16, 63, 6, 63, 1, 240})
	f.Add([]byte{0})
	f.Fuzz(func(t *testing.T, data []byte) {
		g, most := decode(data)
		if f := judge(g, most, nil); f.Code != 0 {
			wantFault(t, g, most, f.Code, f.At)
			return
		}
		if _, f := List(g, most); f.Code != 0 && f != fault(api.ErrMany, -1) {
			t.Fatalf("%v, %d: fault %v", g, most, f)
		}
		if len(g.Rules) <= 20 && g.Terms <= 3 {
			hold(t, g, min(most, 5))
		}
	})
}
