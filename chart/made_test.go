package chart

import (
	"math/big"
	"math/rand"
	"slices"
	"testing"

	"graftwork/api"
	"graftwork/gram"
	"graftwork/tree"
)

// A second way to count: trees made one by one.

// woods are the trees of each nonterminal (the first number) with each part of a word (the other two).
type woods struct {
	g     api.Grammar
	w     []int
	trees map[[3]int][]api.Tree
}

// plant makes all trees, first those without trees below them, then, round by round, those of what was made; nil, if there are more than so many, or some deeper than the greatest without a round.
func plant(g api.Grammar, w []int, room int) *woods {
	p := &woods{g: g, w: w}
	for made, depth := -1, 0; depth <= g.Vars*(len(w)+1)+1; depth++ {
		next, n := map[[3]int][]api.Tree{}, 0
		for r := range g.Rules {
			for i := 0; i <= len(w); i++ {
				for j := i; j <= len(w); j++ {
					at := [3]int{g.Rules[r].Left, i, j}
					for _, kids := range p.rows(g.Rules[r].Right, i, j) {
						next[at] = append(next[at], api.Tree{Rule: r, Kids: kids})
						if n++; n > room {
							return nil
						}
					}
				}
			}
		}
		p.trees = next
		if n == made {
			return p
		}
		made = n
	}
	return nil
}

// rows makes all rows of trees that symbols may have with a part of the word.
func (p *woods) rows(symbols []int, i, j int) (out [][]api.Tree) {
	if len(symbols) == 0 {
		if i == j {
			return [][]api.Tree{nil}
		}
		return nil
	}
	for m := i; m <= j; m++ {
		out = append(out, p.rowsAt(symbols, i, m, j)...)
	}
	return out
}

// rowsAt makes those of them of which the first symbol goes as far as m.
func (p *woods) rowsAt(symbols []int, i, m, j int) (out [][]api.Tree) {
	if s := symbols[0]; s < 0 {
		if slices.Equal(p.w[i:m], []int{-1 - s}) {
			out = p.rows(symbols[1:], m, j)
		}
		return out
	}
	for _, t := range p.trees[[3]int{symbols[0], i, m}] {
		for _, row := range p.rows(symbols[1:], m, j) {
			out = append(out, append([]api.Tree{t}, row...))
		}
	}
	return out
}

func (p *woods) answer(q question) int {
	switch {
	case q.kind == "Count":
		return len(p.trees[[3]int{p.g.Start, 0, len(p.w)}])
	case q.i < 0 || q.j > len(p.w) || q.i > q.j:
		return 0
	case q.kind == "Of":
		return len(p.trees[[3]int{q.v, q.i, q.j}])
	case q.r < 0 || q.r >= len(p.g.Rules):
		return 0
	case q.kind == "Rule":
		return len(p.rows(p.g.Rules[q.r].Right, q.i, q.j))
	case q.k < 0 || q.k >= len(p.g.Rules[q.r].Right) || q.m < q.i || q.m > q.j:
		return 0
	}
	return len(p.rowsAt(p.g.Rules[q.r].Right[q.k:], q.i, q.m, q.j))
}

// rightTrees: what was planted are trees, with the words that they are told of, no two of them the same.
func (p *woods) rightTrees(t *testing.T) {
	t.Helper()
	for at, list := range p.trees {
		g := p.g
		g.Start = at[0]
		for _, x := range list {
			if w, f := tree.Word(g, x); f.Code != 0 || !slices.Equal(w, p.w[at[1]:at[2]]) {
				t.Fatalf("%v of %v: word %v, fault %v, want %v", x, brief(g), w, f, p.w[at[1]:at[2]])
			}
		}
		list = slices.Clone(list)
		slices.SortFunc(list, tree.Order)
		if len(slices.CompactFunc(list, func(a, b api.Tree) bool { return tree.Order(a, b) == 0 })) != len(p.trees[at]) {
			t.Fatalf("%v of %v: the same twice", at, brief(g))
		}
	}
}

// A third way: by numbers without bound, depth by depth.

type depths struct {
	g api.Grammar
	w []int
	n map[[3]int]*big.Int
}

// dig counts the trees that are no deeper than so much, out of those less deep, till no more come.
func dig(g api.Grammar, w []int) *depths {
	d := &depths{g: g, w: w, n: map[[3]int]*big.Int{}}
	for same := false; !same; {
		next := map[[3]int]*big.Int{}
		for _, r := range g.Rules {
			for i := 0; i <= len(w); i++ {
				for j, ways := range d.ends(r.Right, i) {
					at := [3]int{r.Left, i, j}
					if next[at] == nil {
						next[at] = new(big.Int)
					}
					next[at].Add(next[at], ways)
				}
			}
		}
		same = len(next) == len(d.n)
		for at, ways := range next {
			same = same && d.n[at] != nil && d.n[at].Cmp(ways) == 0
		}
		d.n = next
	}
	return d
}

// ends tells in how many ways symbols stand for the word from i, by where they end.
func (d *depths) ends(symbols []int, i int) map[int]*big.Int {
	at := map[int]*big.Int{i: big.NewInt(1)}
	for _, s := range symbols {
		next := map[int]*big.Int{}
		for m, ways := range at {
			for j := m; j <= len(d.w); j++ {
				if n := d.symbol(s, m, j); n.Sign() > 0 {
					if next[j] == nil {
						next[j] = new(big.Int)
					}
					next[j].Add(next[j], new(big.Int).Mul(ways, n))
				}
			}
		}
		at = next
	}
	return at
}

func (d *depths) symbol(s, i, j int) *big.Int {
	if s < 0 {
		if slices.Equal(d.w[i:j], []int{-1 - s}) {
			return big.NewInt(1)
		}
		return new(big.Int)
	}
	if n := d.n[[3]int{s, i, j}]; n != nil {
		return n
	}
	return new(big.Int)
}

func (d *depths) answer(q question) int {
	n := new(big.Int)
	switch {
	case q.kind == "Count":
		n = d.symbol(d.g.Start, 0, len(d.w))
	case q.i < 0 || q.j > len(d.w) || q.i > q.j:
	case q.kind == "Of" && q.v >= 0:
		n = d.symbol(q.v, q.i, q.j)
	case q.kind == "Of" || q.r < 0 || q.r >= len(d.g.Rules):
	case q.kind == "Rule":
		n = d.ends(d.g.Rules[q.r].Right, q.i)[q.j]
	case q.k >= 0 && q.k < len(d.g.Rules[q.r].Right) && q.i <= q.m && q.m <= q.j:
		if behind := d.ends(d.g.Rules[q.r].Right[q.k+1:], q.m)[q.j]; behind != nil {
			n.Mul(d.symbol(d.g.Rules[q.r].Right[q.k], q.i, q.m), behind)
		}
	}
	if n == nil {
		return 0
	}
	return bounded(n)
}

// bounded answers n, or Many, if it is more.
func bounded(n *big.Int) int {
	if n.Cmp(big.NewInt(api.Many)) > 0 {
		return api.Many
	}
	return int(n.Int64())
}

// A second way to find what is wrong.

func judge(g api.Grammar, w []int) api.Fault {
	if f := gram.Check(g); f.Code != 0 {
		return f
	}
	if len(w) > api.MaxWord {
		return api.Fault{Code: api.ErrWord, At: -1}
	}
	for at, n := range w {
		if n < 0 || n >= g.Terms {
			return api.Fault{Code: api.ErrWord, At: at}
		}
	}
	if round(g) {
		return api.Fault{Code: api.ErrRound, At: -1}
	}
	return api.Fault{}
}

// round: does something lead to itself alone?
func round(g api.Grammar) bool {
	empty := map[int]bool{}
	leads := map[[2]int]bool{}
	for range g.Vars + 1 {
		for _, r := range g.Rules {
			if !slices.ContainsFunc(r.Right, func(s int) bool { return !empty[s] }) {
				empty[r.Left] = true
			}
		}
	}
	for _, r := range g.Rules {
		for k, s := range r.Right {
			beside := slices.Concat(r.Right[:k], r.Right[k+1:])
			if s >= 0 && !slices.ContainsFunc(beside, func(s int) bool { return !empty[s] }) {
				leads[[2]int{r.Left, s}] = true
			}
		}
	}
	for b := range g.Vars {
		for a := range g.Vars {
			for c := range g.Vars {
				if leads[[2]int{a, b}] && leads[[2]int{b, c}] {
					leads[[2]int{a, c}] = true
				}
			}
		}
	}
	for v := range g.Vars {
		if leads[[2]int{v, v}] {
			return true
		}
	}
	return false
}

// Grammars that are made up.

type maker struct {
	*rand.Rand
	wild int // one number of so many is any
}

func (m *maker) number(low, high int) int {
	if m.wild > 0 && m.Intn(m.wild) == 0 {
		return low - 2 + m.Intn(high-low+5)
	}
	return low + m.Intn(high-low+1)
}

func (m *maker) grammar(vars, terms, rules, right int) api.Grammar {
	g := api.Grammar{Vars: m.number(1, vars), Terms: m.number(1, terms)}
	g.Start = m.number(0, max(g.Vars, 1)-1)
	for range 1 + m.Intn(rules) {
		r := rule(m.number(0, max(g.Vars, 1)-1))
		for range m.Intn(right + 1) {
			r.Right = append(r.Right, m.number(-max(g.Terms, 1), max(g.Vars, 1)-1))
		}
		g.Rules = append(g.Rules, r)
	}
	return g
}

func (m *maker) word(g api.Grammar, most int) (w []int) {
	for range m.Intn(most + 1) {
		w = append(w, m.number(0, max(g.Terms, 1)-1))
	}
	return w
}

// holdAgainst asks all of a chart, and another way.
func holdAgainst(t *testing.T, g api.Grammar, w []int, answer func(question) int) {
	t.Helper()
	c := lay(t, g, w)
	for _, q := range questions(g, len(w)) {
		if got, want := q.ask(c), answer(q); got != want {
			t.Fatalf("%v of %v, %v: %d, want %d", q, brief(g), w, got, want)
		}
	}
	holdTogether(t, c, g, len(w))
}

// holdTogether: Of is the sum of Rule, Rule that of Split at symbol 0.
func holdTogether(t *testing.T, c *Chart, g api.Grammar, n int) {
	t.Helper()
	for i := 0; i <= n; i++ {
		for j := i; j <= n; j++ {
			trees := make([]*big.Int, g.Vars)
			for v := range trees {
				trees[v] = new(big.Int)
			}
			for r, x := range g.Rules {
				trees[x.Left].Add(trees[x.Left], big.NewInt(int64(c.Rule(r, i, j))))
				at := new(big.Int)
				for m := i; m <= j; m++ {
					at.Add(at, big.NewInt(int64(c.Split(r, 0, i, m, j))))
				}
				if len(x.Right) == 0 {
					at.SetInt64(int64(one(i == j)))
				}
				if c.Rule(r, i, j) != bounded(at) {
					t.Fatalf("the rule %d of %v from %d to %d: %d, its splits %v", r, brief(g), i, j, c.Rule(r, i, j), at)
				}
			}
			for v, sum := range trees {
				if c.Of(v, i, j) != bounded(sum) {
					t.Fatalf("%d of %v from %d to %d: %d, its rules %v", v, brief(g), i, j, c.Of(v, i, j), sum)
				}
			}
		}
	}
}

func TestGrammarsMadeUp(t *testing.T) {
	m := &maker{Rand: rand.New(rand.NewSource(2))}
	seen := map[int]int{}
	for seen[-1] < 800 {
		g := m.grammar(4, 2, 8, 3)
		w := m.word(g, 4)
		if round(g) {
			wantFault(t, g, w, api.ErrRound, -1)
			continue
		}
		p := plant(g, w, 1000)
		if p == nil {
			continue
		}
		p.rightTrees(t)
		holdAgainst(t, g, w, p.answer)
		holdAgainst(t, g, w, dig(g, w).answer)
		seen[-1]++
		seen[min(len(p.trees[[3]int{g.Start, 0, len(w)}]), 3)]++
	}
	for n, least := range []int{100, 50, 10, 10} {
		if seen[n] < least {
			t.Errorf("only %d words with %d trees (3: or more)", seen[n], n)
		}
	}
}

func TestFaultsOfGrammarsMadeUp(t *testing.T) {
	seen := map[api.Fault]int{}
	for _, wild := range []int{8, 30, 100} {
		m := &maker{rand.New(rand.NewSource(3)), wild}
		for range 4000 {
			g := m.grammar(4, 2, 6, 3)
			w := m.word(g, 14)
			f := judge(g, w)
			if f.Code != 0 {
				wantFault(t, g, w, f.Code, f.At)
			} else {
				lay(t, g, w).Count()
			}
			seen[api.Fault{Code: f.Code, At: min(f.At, 1)}]++
		}
	}
	for _, f := range []api.Fault{{}, {Code: api.ErrRange, At: -1}, {Code: api.ErrRange, At: 0}, {Code: api.ErrRange, At: 1}, {Code: api.ErrWord, At: -1}, {Code: api.ErrWord, At: 0}, {Code: api.ErrWord, At: 1}, {Code: api.ErrRound, At: -1}} {
		if seen[f] < 20 {
			t.Errorf("fault %v was told %d times alone", f, seen[f])
		}
	}
}

// Grammars of which a nonterminal begins or ends with itself, behind and ahead of what may be empty and what may not.
func TestGrammarsThatGoRound(t *testing.T) {
	for _, rules := range []string{
		"0 > 0 1; 0 >; 1 > 0 1 #0; 1 > 1 0 #0; 1 > #0",
		"0 > 0 1; 1 > 0 1; 1 > 1 0; 0 > #0; 1 > #0",
		"0 > 1 0 #0; 0 > #0; 1 >; 1 > 0 #0",
		"0 > 1 2 0; 0 > #0; 1 >; 1 > 0; 2 > #0; 2 > 0 1 2",
		"0 > 1 1; 1 > 2 2; 2 > ; 2 > #0; 1 > 0 1 #0",
		"0 > 0 #0 0; 0 > 1; 1 >; 1 >; 1 > #0 0",
		"0 > 0 0; 0 > 1 1; 1 > #0; 1 > 0 #0 0",
		"0 > 1 #0; 1 > 2 1 2 #0; 1 > 2; 2 >; 2 > 0 2",
		"0 > 1 0; 0 > 2; 1 > 0 2; 2 > #0; 1 > 1 2",
	} {
		g := read(3, rules)
		for n := range 4 {
			w := make([]int, n)
			p := plant(g, w, 5000)
			if p == nil {
				t.Fatalf("too many trees: %s, %d", rules, n)
			}
			holdAgainst(t, g, w, p.answer)
		}
		for _, n := range []int{5, 8} {
			w := make([]int, n)
			holdAgainst(t, g, w, dig(g, w).answer)
		}
	}
}

// decode makes a grammar and a word of bytes, whatever they are: each is a number; how many symbols there are stands ahead of them.
func decode(data []byte) (g api.Grammar, w []int) {
	next := func() int {
		if len(data) == 0 {
			return 0
		}
		n := int(int8(data[0]))
		data = data[1:]
		return n
	}
	list := func() (l []int) {
		for range max(next(), 0) {
			l = append(l, next())
		}
		return l
	}
	g.Vars, g.Terms, g.Start = next(), next(), next()
	w = list()
	for len(data) > 0 {
		left := next()
		g.Rules = append(g.Rules, api.Rule{Left: left, Right: list()})
	}
	return g, w
}

func FuzzChart(f *testing.F) {
	f.Add([]byte{1, 1, 0, 4, 0, 0, 0, 0, 0, 2, 0, 0, 0, 1, 255})
	f.Add([]byte{2, 2, 0, 3, 0, 1, 0, 0, 3, 1, 255, 1, 1, 0, 1, 1, 254})
	f.Add([]byte{64, 16, 63, 12, 15, 15})
	f.Add([]byte{0})
	f.Fuzz(func(t *testing.T, data []byte) {
		g, w := decode(data)
		if f := judge(g, w); f.Code != 0 {
			wantFault(t, g, w, f.Code, f.At)
			return
		}
		if len(g.Rules) > 12 || len(w) > 5 {
			holdTogether(t, lay(t, g, w), g, len(w))
			return
		}
		holdAgainst(t, g, w, dig(g, w).answer)
	})
}
