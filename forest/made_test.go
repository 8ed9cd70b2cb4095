package forest

import (
	"cmp"
	"math/big"
	"math/rand"
	"slices"
	"testing"

	"graftwork/api"
	"graftwork/chart"
	"graftwork/tree"
)

// A second way: trees made one by one, and sorted by the order.

// woods are the trees of each nonterminal (the first number) with each part of a word (the other two).
type woods struct {
	g     api.Grammar
	w     []int
	trees map[[3]int][]api.Tree
}

// plant makes all trees, first those without trees below them, then, round by round, those of what was made; nil, if there are more than so many, or some deeper than the greatest without a round.
func plant(g api.Grammar, w []int, room int) *woods {
	p := &woods{g: g, w: w}
	for made, depth := -1, 0; depth <= g.Vars*(len(w)+1)+1; depth++ {
		next, n := map[[3]int][]api.Tree{}, 0
		for r := range g.Rules {
			for i := 0; i <= len(w); i++ {
				for j := i; j <= len(w); j++ {
					at := [3]int{g.Rules[r].Left, i, j}
					for _, kids := range p.rows(g.Rules[r].Right, i, j) {
						next[at] = append(next[at], api.Tree{Rule: r, Kids: kids})
						if n++; n > room {
							return nil
						}
					}
				}
			}
		}
		p.trees = next
		if n == made {
			return p
		}
		made = n
	}
	return nil
}

// rows makes all rows of trees that symbols may have with a part of the word.
func (p *woods) rows(symbols []int, i, j int) (out [][]api.Tree) {
	if len(symbols) == 0 {
		if i == j {
			return [][]api.Tree{nil}
		}
		return nil
	}
	s := symbols[0]
	if s < 0 {
		if i < j && p.w[i] == -1-s {
			return p.rows(symbols[1:], i+1, j)
		}
		return nil
	}
	// The longest first, so that the order is none that comes by itself.
	for m := j; m >= i; m-- {
		for _, t := range p.trees[[3]int{s, i, m}] {
			for _, row := range p.rows(symbols[1:], m, j) {
				out = append(out, append([]api.Tree{t}, row...))
			}
		}
	}
	return out
}

// sorted answers the trees of the word, in the order.
func (p *woods) sorted() []api.Tree {
	list := slices.Clone(p.trees[[3]int{p.g.Start, 0, len(p.w)}])
	slices.SortFunc(list, func(a, b api.Tree) int { return order(p.g, a, b) })
	return list
}

// order holds two trees of words of one length against each other, as the chapter tells it.
func order(g api.Grammar, a, b api.Tree) int {
	if a.Rule != b.Rule {
		return cmp.Compare(a.Rule, b.Rule)
	}
	for k := range a.Kids {
		if n := cmp.Compare(len(word(g, a.Kids[k])), len(word(g, b.Kids[k]))); n != 0 {
			return n
		}
		if tree.Order(a.Kids[k], b.Kids[k]) != 0 {
			return order(g, a.Kids[k], b.Kids[k])
		}
	}
	return 0
}

func word(g api.Grammar, t api.Tree) []int {
	g.Start = g.Rules[t.Rule].Left
	w, _ := tree.Word(g, t)
	return w
}

// wantRising: each tree is above the one ahead.
func wantRising(t *testing.T, g api.Grammar, list []api.Tree) {
	t.Helper()
	for k := 1; k < len(list); k++ {
		if order(g, list[k-1], list[k]) >= 0 {
			t.Fatalf("%s of %s is not below %s", show(list[k-1]), brief(g), show(list[k]))
		}
	}
}

// rightTree: it is a tree of the word.
func rightTree(t *testing.T, g api.Grammar, w []int, x api.Tree) {
	t.Helper()
	if got, f := tree.Word(g, x); f.Code != 0 || !slices.Equal(got, w) {
		t.Fatalf("%s of %s: the word %v, fault %v, want %v", brief(show(x)), brief(g), got, f, w)
	}
}

// wantNoneTwice: no two of them are the same.
func wantNoneTwice(t *testing.T, list []api.Tree) {
	t.Helper()
	seen := map[string]bool{}
	for _, x := range list {
		if seen[show(x)] {
			t.Fatalf("%s twice", show(x))
		}
		seen[show(x)] = true
	}
}

// hold asks all of a word's trees, and the second way.
func (p *woods) hold(t *testing.T) {
	t.Helper()
	want := p.sorted()
	if n := lay(t, p.g, p.w).Count(); n != len(want) {
		t.Fatalf("%s, %v: %d trees, the chart tells %d", brief(p.g), p.w, len(want), n)
	}
	wantRising(t, p.g, want)
	if len(want) <= api.MaxTrees {
		wantTrees(t, p.g, p.w, want)
		list, _ := List(p.g, p.w)
		wantNoneTwice(t, list)
		for _, x := range list {
			rightTree(t, p.g, p.w, x)
		}
		return
	}
	faultOfList(t, p.g, p.w, api.ErrMany, -1)
	for k, x := range want {
		wantAt(t, p.g, p.w, k, x)
		wantRank(t, p.g, x, k)
	}
	for _, k := range noNumbers(len(want)) {
		faultOfAt(t, p.g, p.w, k, api.ErrRange, -1)
	}
}

// A third way: by numbers without bound, depth by depth.

type depths struct {
	g api.Grammar
	w []int
	n map[[3]int]*big.Int
}

// dig counts the trees that are no deeper than so much, out of those less deep, till no more come.
func dig(g api.Grammar, w []int) *depths {
	d := &depths{g: g, w: w, n: map[[3]int]*big.Int{}}
	for same := false; !same; {
		next := map[[3]int]*big.Int{}
		for _, r := range g.Rules {
			for i := 0; i <= len(w); i++ {
				for j, ways := range d.ends(r.Right, i) {
					at := [3]int{r.Left, i, j}
					if next[at] == nil {
						next[at] = new(big.Int)
					}
					next[at].Add(next[at], ways)
				}
			}
		}
		same = len(next) == len(d.n)
		for at, ways := range next {
			same = same && d.n[at] != nil && d.n[at].Cmp(ways) == 0
		}
		d.n = next
	}
	return d
}

// ends tells in how many ways symbols stand for the word from i, by where they end.
func (d *depths) ends(symbols []int, i int) map[int]*big.Int {
	at := map[int]*big.Int{i: big.NewInt(1)}
	for _, s := range symbols {
		next := map[int]*big.Int{}
		for m, ways := range at {
			for j := m; j <= len(d.w); j++ {
				if n := d.symbol(s, m, j); n.Sign() > 0 {
					if next[j] == nil {
						next[j] = new(big.Int)
					}
					next[j].Add(next[j], new(big.Int).Mul(ways, n))
				}
			}
		}
		at = next
	}
	return at
}

func (d *depths) symbol(s, i, j int) *big.Int {
	if s < 0 {
		if slices.Equal(d.w[i:j], []int{-1 - s}) {
			return big.NewInt(1)
		}
		return new(big.Int)
	}
	if n := d.n[[3]int{s, i, j}]; n != nil {
		return n
	}
	return new(big.Int)
}

// to tells in how many ways symbols stand for the word from i to ahead of j.
func (d *depths) to(symbols []int, i, j int) *big.Int {
	if n := d.ends(symbols, i)[j]; n != nil {
		return n
	}
	return new(big.Int)
}

// ahead counts the trees with the word from i to ahead of j that come ahead of t: those of lower rules; and, tree by tree below it, those that have the same ones ahead, and a lower one here, whatever stands behind.
func (d *depths) ahead(t api.Tree, i, j int) *big.Int {
	n, rule := new(big.Int), d.g.Rules[t.Rule]
	for r := range t.Rule {
		if d.g.Rules[r].Left == rule.Left {
			n.Add(n, d.to(d.g.Rules[r].Right, i, j))
		}
	}
	for k, kid := 0, 0; k < len(rule.Right); k++ {
		if rule.Right[k] < 0 {
			i++
			continue
		}
		m := i + len(word(d.g, t.Kids[kid]))
		for short := i; short < m; short++ {
			n.Add(n, new(big.Int).Mul(d.symbol(rule.Right[k], i, short), d.to(rule.Right[k+1:], short, j)))
		}
		n.Add(n, new(big.Int).Mul(d.ahead(t.Kids[kid], i, m), d.to(rule.Right[k+1:], m, j)))
		i, kid = m, kid+1
	}
	return n
}

// bounded answers n, or Many, if it is more.
func bounded(n *big.Int) int {
	if n.Cmp(big.NewInt(api.Many)) > 0 {
		return api.Many
	}
	return int(n.Int64())
}

// Grammars that are made up.

type maker struct {
	*rand.Rand
	wild int // one number of so many is any
}

func (m *maker) number(low, high int) int {
	if m.wild > 0 && m.Intn(m.wild) == 0 {
		return low - 2 + m.Intn(high-low+5)
	}
	return low + m.Intn(high-low+1)
}

func (m *maker) grammar(vars, terms, rules, right int) api.Grammar {
	g := api.Grammar{Vars: m.number(1, vars), Terms: m.number(1, terms)}
	g.Start = m.number(0, max(g.Vars, 1)-1)
	for range 1 + m.Intn(rules) {
		r := rule(m.number(0, max(g.Vars, 1)-1))
		for range m.Intn(right + 1) {
			r.Right = append(r.Right, m.number(-max(g.Terms, 1), max(g.Vars, 1)-1))
		}
		g.Rules = append(g.Rules, r)
	}
	return g
}

func (m *maker) word(g api.Grammar, most int) (w []int) {
	for range m.Intn(most + 1) {
		w = append(w, m.number(0, max(g.Terms, 1)-1))
	}
	return w
}

// tree makes up a tree that may be one of v, mostly.
func (m *maker) tree(g api.Grammar, v, deep int) api.Tree {
	var of []int
	for r := range g.Rules {
		if g.Rules[r].Left == v {
			of = append(of, r)
		}
	}
	if len(of) == 0 || deep == 0 {
		return node(m.number(0, len(g.Rules)))
	}
	x := node(of[m.Intn(len(of))])
	if deep < 3 {
		x = node(of[len(of)-1])
	}
	for _, s := range g.Rules[x.Rule].Right {
		if s >= 0 {
			x.Kids = append(x.Kids, m.tree(g, s, deep-1))
		}
	}
	if m.wild > 0 && m.Intn(m.wild) == 0 && len(x.Kids) > 0 {
		x.Kids = x.Kids[1:]
	}
	return x
}

func TestGrammarsMadeUp(t *testing.T) {
	m := &maker{Rand: rand.New(rand.NewSource(5))}
	seen := map[int]int{}
	for seen[-1] < 4000 {
		g := m.grammar(4, 2, 9, 3)
		w := m.word(g, 5)
		if _, f := chart.New(g, w); f.Code != 0 {
			faultOfBoth(t, g, w, f.Code, f.At)
			continue
		}
		p := plant(g, w, 1000)
		if p == nil {
			continue
		}
		p.hold(t)
		seen[-1]++
		n := len(p.sorted())
		seen[min(n, 3)]++
		if n > 10 {
			seen[11]++
		}
		if n > api.MaxTrees {
			seen[12]++
		}
	}
	for n, least := range map[int]int{0: 200, 1: 200, 2: 50, 3: 100, 11: 30, 12: 3} {
		if seen[n] < least {
			t.Errorf("only %d words with %d trees (3: or more; 11: more than ten; 12: more than are listed)", seen[n], n)
		}
	}
}

// With more trees than can be made one by one: what comes ahead of a tree, counted without bound.
func TestManyTreesMadeUp(t *testing.T) {
	m := &maker{Rand: rand.New(rand.NewSource(6))}
	for seen := 0; seen < 150; {
		g := m.grammar(4, 2, 12, 4)
		w := m.word(g, 8)
		c, f := chart.New(g, w)
		if f.Code != 0 || c.Count() < 1000 || c.Count() == api.Many {
			continue
		}
		seen++
		d := dig(g, w)
		n := c.Count()
		ks := append(spread(n), m.Intn(n), m.Intn(n), m.Intn(n))
		slices.Sort(ks)
		var list []api.Tree
		for _, k := range slices.Compact(ks) {
			d.holdAt(t, k)
			x, _ := At(g, w, k)
			list = append(list, x)
		}
		wantRising(t, g, list)
		wantNoneTwice(t, list)
		faultOfAt(t, g, w, n, api.ErrRange, -1)
	}
}

// judgeRank tells the fault of Rank, or none.
func judgeRank(g api.Grammar, x api.Tree) api.Fault {
	w, f := tree.Word(g, x)
	if f.Code != 0 {
		return f
	}
	c, f := chart.New(g, w)
	if f.Code != 0 {
		return f
	}
	if c.Count() == api.Many {
		return fault(api.ErrMany, -1)
	}
	return api.Fault{}
}

// judgeAt tells the fault of At, if it is none of a tree that is too great.
func judgeAt(g api.Grammar, w []int, k int) api.Fault {
	c, f := chart.New(g, w)
	if f.Code != 0 {
		return f
	}
	if n := c.Count(); n == api.Many {
		return fault(api.ErrMany, -1)
	} else if k < 0 || k >= n {
		return fault(api.ErrRange, -1)
	}
	return api.Fault{}
}

func TestFaultsMadeUp(t *testing.T) {
	seen := map[api.Fault]int{}
	for _, wild := range []int{8, 30, 100} {
		m := &maker{rand.New(rand.NewSource(7)), wild}
		for range 4000 {
			g := m.grammar(4, 2, 6, 3)
			w := m.word(g, 14)
			k := m.Intn(6) - 2
			if f := judgeAt(g, w, k); f.Code != 0 {
				faultOfAt(t, g, w, k, f.Code, f.At)
			} else {
				x, _ := At(g, w, k)
				rightTree(t, g, w, x)
				wantRank(t, g, x, k)
			}
			x := m.tree(g, g.Start, 6)
			f := judgeRank(g, x)
			if seen[fault(f.Code, min(f.At, 1))]++; f.Code != 0 {
				faultOfRank(t, g, x, f.Code, f.At)
				continue
			}
			k, _ = Rank(g, x)
			wantAt(t, g, word(g, x), k, x)
		}
	}
	for _, f := range []api.Fault{{}, fault(api.ErrRange, -1), fault(api.ErrRange, 0), fault(api.ErrRange, 1), fault(api.ErrTree, -1), fault(api.ErrRound, -1), fault(api.ErrWord, -1)} {
		if seen[f] < 20 {
			t.Errorf("fault %v was told by Rank %d times alone", f, seen[f])
		}
	}
}

// decode makes a grammar, a word and a number of bytes, whatever they are: each is a number; how many symbols there are stands ahead of them.
func decode(data []byte) (g api.Grammar, w []int, k int) {
	next := func() int {
		if len(data) == 0 {
			return 0
		}
		n := int(int8(data[0]))
		data = data[1:]
		return n
	}
	list := func() (l []int) {
		for range max(next(), 0) {
			l = append(l, next())
		}
		return l
	}
	g.Vars, g.Terms, g.Start, k = next(), next(), next(), next()
	w = list()
	for len(data) > 0 {
		left := next()
		g.Rules = append(g.Rules, api.Rule{Left: left, Right: list()})
	}
	return g, w, k
}

func FuzzForest(f *testing.F) {
	f.Add([]byte{1, 1, 0, 4, 4, 0, 0, 0, 0, 0, 2, 0, 0, 0, 1, 255})
	f.Add([]byte{2, 2, 0, 0, 3, 0, 1, 0, 0, 3, 1, 255, 1, 1, 0, 1, 1, 254})
	f.Add([]byte{64, 16, 63, 1, 12, 15, 15})
	f.Add([]byte{0})
	f.Fuzz(func(t *testing.T, data []byte) {
		g, w, k := decode(data)
		List(g, w)
		if f := judgeAt(g, w, k); f.Code != 0 {
			faultOfAt(t, g, w, k, f.Code, f.At)
		} else if x, f := At(g, w, k); f.Code != 0 {
			if f != fault(api.ErrMany, -1) {
				t.Fatalf("At %d of %v, %v: fault %v", k, g, w, f)
			}
			return
		} else {
			rightTree(t, g, w, x)
			wantRank(t, g, x, k)
		}
		if _, f := chart.New(g, w); f.Code != 0 || len(g.Rules) > 12 || len(w) > 5 {
			return
		}
		if p := plant(g, w, 500); p != nil && !slices.ContainsFunc(p.sorted(), func(x api.Tree) bool { return nodes(x) > api.MaxNodes }) {
			p.hold(t)
		}
	})
}
