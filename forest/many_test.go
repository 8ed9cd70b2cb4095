package forest

import (
	"math"
	"math/big"
	"slices"
	"testing"

	"graftwork/api"
	"graftwork/chart"
)

// lay answers a chart that is to have no fault.
func lay(t testing.TB, g api.Grammar, w []int) *chart.Chart {
	t.Helper()
	c, f := chart.New(g, w)
	if c == nil || f != (api.Fault{}) {
		t.Fatalf("chart.New of %s, %v: chart %v, fault %v", brief(g), w, c != nil, f)
	}
	return c
}

// MaxTrees.

func TestMaxTrees(t *testing.T) {
	for _, n := range []int{1, 2, api.MaxTrees - 1, api.MaxTrees, api.MaxTrees + 1, 2 * api.MaxTrees} {
		g := exactly(big.NewInt(int64(n)), rule(0, -1, first))
		w := []int{0}
		if n > api.MaxTrees {
			faultOfList(t, g, w, api.ErrMany, -1)
		}
		var want []api.Tree
		for k := range n {
			x := node(0, digits(g, first, k))
			wantAt(t, g, w, k, x)
			wantRank(t, g, x, k)
			want = append(want, x)
		}
		wantRising(t, g, want)
		for _, k := range noNumbers(n) {
			faultOfAt(t, g, w, k, api.ErrRange, -1)
		}
		if n <= api.MaxTrees {
			wantTrees(t, g, w, want)
		}
	}
	// Products: 190, 200 and 210 trees.
	for n := range 3 {
		g := api.Grammar{Vars: 2, Rules: slices.Repeat([]api.Rule{rule(0, 1), rule(1)}, 10)}
		g.Rules = append(g.Rules, slices.Repeat([]api.Rule{rule(1)}, 9+n)...)
		if got := lay(t, g, nil).Count(); got != 190+10*n {
			t.Fatalf("%d trees", got)
		}
		if list, f := List(g, nil); n < 2 && (len(list) != 190+10*n || f.Code != 0) {
			t.Errorf("%d trees, fault %v", len(list), f)
		}
		if n == 2 {
			faultOfList(t, g, nil, api.ErrMany, -1)
		}
	}
	// 132 and 429 trees.
	g := read(1, "0 > 0 0; 0 > #0")
	list, f := List(g, make([]int, 7))
	if len(list) != 132 || f.Code != 0 {
		t.Fatalf("%d trees, fault %v", len(list), f)
	}
	wantTrees(t, g, make([]int, 7), list)
	wantRising(t, g, list)
	faultOfList(t, g, make([]int, 8), api.ErrMany, -1)
}

// MaxNodes.

// sizer makes nonterminals that have one tree each, of so many nodes.
type sizer struct {
	g     api.Grammar
	vars  map[int]int
	trees map[int]api.Tree
}

// parts answers up to nine nonterminals with n nodes in all, and their trees.
func (s *sizer) parts(n int) (right []int, kids []api.Tree) {
	for left := min(n, 9); left > 0; left-- {
		v, kid := s.of(n / left)
		right, kids = append(right, v), append(kids, kid)
		n -= n / left
	}
	return right, kids
}

func (s *sizer) of(n int) (int, api.Tree) {
	if _, ok := s.vars[n]; !ok {
		right, kids := s.parts(n - 1)
		s.vars[n], s.trees[n] = s.g.Vars, node(len(s.g.Rules), kids...)
		s.g.Rules = append(s.g.Rules, rule(s.g.Vars, right...))
		s.g.Vars++
	}
	return s.vars[n], s.trees[n]
}

// rows answers a grammar in which the word 0 has trees of just so many nodes, in that order.
func rows(sizes ...int) (api.Grammar, []api.Tree) {
	s := &sizer{g: api.Grammar{Vars: 1, Terms: 1}, vars: map[int]int{}, trees: map[int]api.Tree{}}
	var trees []api.Tree
	for i, n := range sizes {
		right, kids := s.parts(n - 1)
		trees = append(trees, node(len(s.g.Rules), kids...))
		// The terminal stands ahead of, between or behind the others.
		s.g.Rules = append(s.g.Rules, rule(0, slices.Insert(right, i%(len(right)+1), -1)...))
	}
	return s.g, trees
}

// grown answers a grammar with one tree, of the empty word, of at least n nodes, all of one form; the rule of the root is 0.
func grown(n int) api.Grammar {
	g := api.Grammar{Vars: 1, Terms: 3}
	for size := 1; size < n; size = 10*size + 1 {
		g.Rules = append(g.Rules, rule(g.Vars-1, slices.Repeat([]int{g.Vars}, 10)...))
		g.Vars++
	}
	g.Rules = append(g.Rules, rule(g.Vars-1))
	return g
}

// nodes answers how many trees there are in t, it among them.
func nodes(t api.Tree) int {
	n := 1
	for _, kid := range t.Kids {
		n += nodes(kid)
	}
	return n
}

func TestMaxNodes(t *testing.T) {
	const most = api.MaxNodes
	for _, sizes := range [][]int{
		{most},
		{most - 1},
		{1, most, 2},
		{most, most - 1, most, 3, most},
		{most, 1},
		{1, 2, 3, most},
		{1, 8, 9, 57, 58, 59, 100, 399},
	} {
		g, trees := rows(sizes...)
		for i, n := range sizes {
			if nodes(trees[i]) != n {
				t.Fatalf("a tree of %d nodes, not %d", nodes(trees[i]), n)
			}
		}
		wantTrees(t, g, []int{0}, trees)
	}
	for _, sizes := range [][]int{
		{most + 1},
		{most + 1, 1, 2},
		{1, 2, 3, most + 1},
		{1, most, most + 1, most, 2},
		{most + 2, 1, most + 30, 2},
		{most, 429, most},
	} {
		g, trees := rows(sizes...)
		w := []int{0}
		faultOfList(t, g, w, api.ErrMany, -1)
		for k, x := range trees {
			if sizes[k] > most {
				faultOfAt(t, g, w, k, api.ErrMany, -1)
				faultOfRank(t, g, x, api.ErrMany, -1)
				continue
			}
			wantAt(t, g, w, k, x)
			wantRank(t, g, x, k)
		}
		for _, k := range noNumbers(len(sizes)) {
			faultOfAt(t, g, w, k, api.ErrRange, -1)
		}
		// Of another word there is no tree that is too great.
		wantList(t, g, nil, nil)
	}
}

// The last node too many may be anywhere: in the last tree below the root, and at its end.
func TestMaxNodesByPlaces(t *testing.T) {
	for _, c := range []struct {
		rules string
		nodes int
	}{
		{"0 > 1 1 1 1 1 1 1; 1 > 2 2 2 2 2 2 2; 2 > 3 3 3 3 3 3 3; 3 >", 400},
		{"0 > 1 1 1 1 1 1 1 3; 1 > 2 2 2 2 2 2 2; 2 > 3 3 3 3 3 3 3; 3 >", 401},
		{"0 > 3 1 1 1 1 1 1 1; 1 > 2 2 2 2 2 2 2; 2 > 3 3 3 3 3 3 3; 3 >", 401},
		{"0 > 1 1 1 3 1 1 1 1; 1 > 2 2 2 2 2 2 2; 2 > 3 3 3 3 3 3 3; 3 >", 401},
	} {
		g := read(4, c.rules)
		if c.nodes > api.MaxNodes {
			faultOfList(t, g, nil, api.ErrMany, -1)
			faultOfAt(t, g, nil, 0, api.ErrMany, -1)
			faultOfAt(t, g, nil, 1, api.ErrRange, -1)
			continue
		}
		list, _ := List(g, nil)
		if len(list) != 1 || nodes(list[0]) != c.nodes {
			t.Fatalf("%s: %d trees", c.rules, len(list))
		}
		wantTrees(t, g, nil, list)
	}
}

// P1: what can't be gone through is given up early.
func TestGreatestTrees(t *testing.T) {
	g := grown(math.MaxInt / 100)
	faultOfList(t, g, nil, api.ErrMany, -1)
	faultOfAt(t, g, nil, 0, api.ErrMany, -1)
	faultOfAt(t, g, nil, 1, api.ErrRange, -1)
	faultOfAt(t, g, nil, -1, api.ErrRange, -1)
	wantList(t, g, []int{0}, nil)
	deep := api.Grammar{Vars: api.MaxVars, Terms: 1}
	for v := range api.MaxVars - 1 {
		deep.Rules = append(deep.Rules, rule(v, slices.Repeat([]int{v + 1}, 10)...))
	}
	deep.Rules = append(deep.Rules, rule(api.MaxVars-1))
	faultOfList(t, deep, nil, api.ErrMany, -1)
	faultOfAt(t, deep, nil, 0, api.ErrMany, -1)
	faultOfAt(t, deep, nil, 1, api.ErrRange, -1)
	// Beside it a small one, ahead and behind.
	deep.Rules = append(deep.Rules, rule(0))
	wantAt(t, deep, nil, 1, node(api.MaxVars))
	wantRank(t, deep, node(api.MaxVars), 1)
	faultOfList(t, deep, nil, api.ErrMany, -1)
	slices.Reverse(deep.Rules)
	wantAt(t, deep, nil, 0, node(0))
	faultOfAt(t, deep, nil, 1, api.ErrMany, -1)
	faultOfList(t, deep, nil, api.ErrMany, -1)
}

// P1: MaxTrees trees of MaxNodes nodes, of as many rules as there may be.
func TestGreatestLists(t *testing.T) {
	g := api.Grammar{Vars: 6, Terms: 1}
	for _, r := range []api.Rule{rule(0, 1, 1, 1, 1, 1, 1, 5), rule(1, 2, 2, 2, 2, 2, 2, 2), rule(2, 3, 3, 3, 3, 3, 3, 3), rule(5, 2, 2, 2, 2, 2, 2, 2)} {
		g.Rules = append(g.Rules, r)
	}
	// Rules that have no tree, ahead of the only one that has.
	for range api.MaxRules - 5 {
		g.Rules = append(g.Rules, rule(3, 3, 3, 3, 3, -1))
	}
	g.Rules = append(g.Rules, rule(3))
	list, f := List(g, nil)
	if f.Code != 0 || len(list) != 1 || nodes(list[0]) != api.MaxNodes {
		t.Fatalf("%d trees, fault %v", len(list), f)
	}
	// 200 ways of the root.
	g.Rules = g.Rules[:api.MaxRules-30]
	g.Rules = append(g.Rules, rule(3))
	g.Vars = 7
	g.Rules = append(g.Rules, slices.Repeat([]api.Rule{rule(6)}, 14)...)
	g.Rules[0].Right = []int{6, 1, 1, 1, 1, 1, 1, 5}
	g.Rules[3].Right = []int{2, 2, 2, 2, 2, 2, 6}
	if list, f = List(g, nil); f.Code != 0 || len(list) != 14*14 || nodes(list[0]) != api.MaxNodes-6 {
		t.Fatalf("%d trees, fault %v", len(list), f)
	}
	wantTrees(t, g, nil, list)
}

// Many.

// The nonterminals of exactly: two has two trees with the empty word, first as many as are wanted, each next one a sixteenth of those.
const two, nothing, first = 1, 2, 3

// exactly answers a grammar of which the nonterminal first has just n trees, with the empty word: a digit of four bits a nonterminal. 0 has the rules that are handed in.
func exactly(n *big.Int, rules ...api.Rule) api.Grammar {
	g := api.Grammar{Vars: first + 1, Terms: 3, Rules: rules}
	g.Rules = append(g.Rules, rule(two), rule(two, nothing), rule(nothing))
	rest := new(big.Int).Set(n)
	for v := first; rest.Sign() > 0; v++ {
		g.Vars = v + 2
		for bit := range 4 {
			if rest.Bit(bit) == 1 {
				g.Rules = append(g.Rules, rule(v, slices.Repeat([]int{two}, bit)...))
			}
		}
		rest.Rsh(rest, 4)
		if rest.Sign() > 0 {
			g.Rules = append(g.Rules, rule(v, v+1, two, two, two, two))
		}
	}
	return g
}

func number(text string) *big.Int {
	n, _ := new(big.Int).SetString(text, 0)
	return n
}

// digits answers the k-th tree of v in a grammar that exactly made, by the digits of k.
func digits(g api.Grammar, v, k int) api.Tree {
	x := slices.IndexFunc(g.Rules, func(r api.Rule) bool { return r.Left == two })
	bits := func(k, n int) (out []api.Tree) {
		for b := n - 1; b >= 0; b-- {
			kid := node(x)
			if k>>b&1 == 1 {
				kid = node(x+1, node(x+2))
			}
			out = append(out, kid)
		}
		return out
	}
	for r, rule := range g.Rules {
		switch {
		case rule.Left != v:
		case len(rule.Right) > 4:
			return node(r, append([]api.Tree{digits(g, v+1, k>>4)}, bits(k, 4)...)...)
		case k < 1<<len(rule.Right):
			return node(r, bits(k, len(rule.Right))...)
		default:
			k -= 1 << len(rule.Right)
		}
	}
	return node(-1)
}

func TestJustMany(t *testing.T) {
	for _, c := range []struct {
		n    string
		many bool
	}{
		{"37", false}, {"0x7fffffff", false}, {"0x123456789abcdef", false}, {"0x3ffffffffffffffe", false}, {"0x3fffffffffffffff", false},
		{"0x4000000000000000", true}, {"0x4000000000000001", true}, {"0x7fffffffffffffff", true}, {"0x8000000000000000", true},
		{"0xffffffffffffffff", true}, {"0x10000000000000000", true}, {"0x10000000000000001", true}, {"0x123456789abcdef01234", true},
	} {
		n := number(c.n)
		g := exactly(n, rule(0, -1, first, -1))
		w := spell("00")
		if c.many {
			faultOfList(t, g, w, api.ErrMany, -1)
			// Ahead of a number that there is not.
			for _, k := range []int{0, 1, 5, -1, math.MinInt, api.Many - 1, api.Many, api.Many + 1, math.MaxInt} {
				faultOfAt(t, g, w, k, api.ErrMany, -1)
			}
			for _, k := range []int{0, 1, 100} {
				faultOfRank(t, g, node(0, digits(g, first, k)), api.ErrMany, -1)
			}
			continue
		}
		if n.Cmp(big.NewInt(200)) > 0 {
			faultOfList(t, g, w, api.ErrMany, -1)
		}
		last := int(n.Int64()) - 1
		for _, k := range []int{0, 1, 2, 15, 16, 17, 31, last / 7, last / 3, last/2 - 1, last / 2, last/2 + 1, last - 16, last - 1, last} {
			x := node(0, digits(g, first, k))
			wantAt(t, g, w, k, x)
			wantRank(t, g, x, k)
		}
		for _, k := range noNumbers(last + 1) {
			if k < 0 || k > last {
				faultOfAt(t, g, w, k, api.ErrRange, -1)
			}
		}
		faultOfAt(t, g, nil, 0, api.ErrRange, -1)
	}
}

// One less than Many by sums and by products, with great numbers ahead and behind.
func TestManyBySumsAndProducts(t *testing.T) {
	for _, c := range []struct {
		n     string
		rules []api.Rule
		want  int // Many: more than may be told by numbers
	}{
		{"0x1fffffffffffffff", []api.Rule{rule(0, first), rule(0, first)}, api.Many - 2},
		{"0x1fffffffffffffff", []api.Rule{rule(0, first), rule(0), rule(0, first)}, api.Many - 1},
		{"0x1fffffffffffffff", []api.Rule{rule(0, two, first), rule(0)}, api.Many - 1},
		{"0x1fffffffffffffff", []api.Rule{rule(0), rule(0, first, two)}, api.Many - 1},
		{"0x1fffffffffffffff", []api.Rule{rule(0), rule(0, first, two), rule(0)}, api.Many},
		{"0x7fffffff", []api.Rule{rule(0, first, first), rule(0, first, two)}, (1<<31-1)*(1<<31-1) + 1<<32 - 2},
		{"0x7fffffff", []api.Rule{rule(0, first, first), rule(0, first, two), rule(0)}, api.Many},
		{"0x7fffffff", []api.Rule{rule(0, first, two), rule(0, first, first)}, (1<<31-1)*(1<<31-1) + 1<<32 - 2},
		{"0x7fffffff", []api.Rule{rule(0, first, two, first)}, api.Many},
		// What has no tree, with far more than Many beside it.
		{"0x8000000000000000", []api.Rule{rule(0, first, first, -1), rule(0), rule(0, -1, first), rule(0, two)}, 3},
		{"0x8000000000000000", []api.Rule{rule(0, first, 0, -1), rule(0, 0, first, -1), rule(0, two, two)}, 4},
	} {
		g := exactly(number(c.n), c.rules...)
		if got := lay(t, g, nil).Count(); got != c.want {
			t.Fatalf("%v: %d trees, want %d", c.rules, got, c.want)
		}
		d := dig(g, nil)
		if c.want == api.Many {
			faultOfAt(t, g, nil, 0, api.ErrMany, -1)
			faultOfAt(t, g, nil, -1, api.ErrMany, -1)
			continue
		}
		for _, k := range spread(c.want) {
			d.holdAt(t, k)
		}
		faultOfAt(t, g, nil, c.want, api.ErrRange, -1)
		faultOfAt(t, g, nil, -1, api.ErrRange, -1)
	}
}

// spread answers numbers from 0 to ahead of n: the ends, and some between.
func spread(n int) (out []int) {
	for _, k := range []int{0, 1, 2, 3, n / 9, n / 5, n/3 - 1, n / 3, n/2 - 1, n / 2, n/2 + 1, n / 3 * 2, n - 3, n - 2, n - 1} {
		if 0 <= k && k < n {
			out = append(out, k)
		}
	}
	return out
}

// Words of as many terminals as they may have, with far more trees than may be listed.
func TestLongAmbiguousWords(t *testing.T) {
	w := make([]int, api.MaxWord)
	for _, rules := range []string{
		"0 > 0 0; 0 > #0",
		"0 > 0 0 0; 0 > 0 0; 0 > #0; 0 > #0",
		"0 > 0 0 0 0 0 0 0 0 0 0; 0 > 0 0; 0 > 1 #0; 1 >; 1 > 0 #0",
		"0 > 1 1 1 1 1 1 1 1 1 1; 1 > 2; 1 > 2 2; 2 > #0; 2 >",
		"0 > 1 0 1 #0; 0 >; 1 > 0 0 #0; 1 > 2 2 2; 2 >; 2 > #0",
	} {
		g := read(3, rules)
		d := dig(g, w)
		n := lay(t, g, w).Count()
		if want := bounded(d.symbol(0, 0, len(w))); n != want {
			t.Fatalf("%s: %d trees, want %d", rules, n, want)
		}
		faultOfList(t, g, w, api.ErrMany, -1)
		if n == api.Many {
			faultOfAt(t, g, w, 0, api.ErrMany, -1)
			continue
		}
		var trees []api.Tree
		for _, k := range spread(n) {
			d.holdAt(t, k)
			x, _ := At(g, w, k)
			trees = append(trees, x)
		}
		wantRising(t, g, trees)
		faultOfAt(t, g, w, n, api.ErrRange, -1)
	}
}

// holdAt: At k is a tree of the word, k by both ways of counting what comes ahead of it.
func (d *depths) holdAt(t *testing.T, k int) {
	t.Helper()
	x, f := At(d.g, d.w, k)
	if f.Code != 0 {
		t.Fatalf("At %d of %s: fault %v", k, brief(d.g), f)
	}
	rightTree(t, d.g, d.w, x)
	if n := d.ahead(x, 0, len(d.w)); n.Cmp(big.NewInt(int64(k))) != 0 {
		t.Fatalf("At %d of %s: there are %v ahead of it", k, brief(d.g), n)
	}
	wantRank(t, d.g, x, k)
}

func TestDigits(t *testing.T) {
	g := exactly(big.NewInt(37), rule(0, first))
	for k, want := range map[int]string{0: "0(4)", 1: "0(5(1 1))", 4: "0(5(2(3) 2(3)))", 5: "0(6(7(1) 1 1 1 1))", 6: "0(6(7(1) 1 1 1 2(3)))", 36: "0(6(7(2(3)) 2(3) 2(3) 2(3) 2(3)))"} {
		if got := show(node(0, digits(g, first, k))); got != want {
			t.Errorf("%s, want %s", got, want)
		}
		wantAt(t, g, nil, k, node(0, digits(g, first, k)))
	}
}
