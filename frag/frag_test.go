package frag

import (
	"fmt"
	"math"
	"slices"
	"strconv"
	"strings"
	"testing"

	"graftwork/api"
)

func rule(left int, right ...int) api.Rule { return api.Rule{Left: left, Right: right} }

func node(rule int, kids ...api.Tree) api.Tree { return api.Tree{Rule: rule, Kids: kids} }

func part(op, n int, l ...api.Frag) api.Frag { return api.Frag{Op: op, N: n, L: l} }

func row(l ...api.Frag) []api.Frag { return l }

// grammar makes a grammar of rules as the document tells them: terminals by #, `;` between the rules. It begins with 0.
func grammar(vars int, src string) api.Grammar {
	g := api.Grammar{Vars: vars, Terms: 3}
	for _, line := range strings.Split(src, ";") {
		words := strings.Fields(line)
		left, _ := strconv.Atoi(words[0])
		r := rule(left)
		for _, w := range words[2:] {
			n, _ := strconv.Atoi(strings.TrimPrefix(w, "#"))
			if strings.HasPrefix(w, "#") {
				n = -1 - n
			}
			r.Right = append(r.Right, n)
		}
		g.Rules = append(g.Rules, r)
	}
	return g
}

func from(start int, g api.Grammar) api.Grammar {
	g.Start = start
	return g
}

// kinds: how a part is written: its kind's letter, its number, and what is in it in brackets. The last two are of no kind.
var kinds = map[int]string{api.FNode: "n", api.FHole: "h", api.FGap: "g", api.FFill: "f", 0: "x", 5: "y"}

// parts makes parts of a text, with blanks between them.
func parts(src string) []api.Frag {
	l, _ := readParts(src)
	return l
}

func readParts(src string) (l []api.Frag, rest string) {
	for {
		src = strings.TrimLeft(src, " ")
		if src == "" || src[0] == ')' {
			return l, src
		}
		var p api.Frag
		for op, letter := range kinds {
			if src[:1] == letter {
				p.Op = op
			}
		}
		end := 1 + strings.IndexAny(src[1:]+" ", " ()")
		p.N, _ = strconv.Atoi(src[1:end])
		src = src[end:]
		if strings.HasPrefix(src, "(") {
			p.L, src = readParts(src[1:])
			src = src[1:]
		}
		l = append(l, p)
	}
}

// written tells parts as parts reads them.
func written(l []api.Frag) string {
	var words []string
	for _, p := range l {
		s := kinds[p.Op] + strconv.Itoa(p.N)
		if len(p.L) > 0 {
			s += "(" + written(p.L) + ")"
		}
		words = append(words, s)
	}
	return strings.Join(words, " ")
}

// read makes a tree of what the document writes: a rule, and its trees in brackets, with blanks between.
func read(src string) api.Tree {
	row, _ := readRow(src)
	return row[0]
}

func readRow(src string) (row []api.Tree, rest string) {
	for {
		src = strings.TrimLeft(src, " ")
		if src == "" || src[0] == ')' {
			return row, src
		}
		end := strings.IndexAny(src+" ", " ()")
		n, err := strconv.Atoi(src[:end])
		if err != nil {
			panic(err)
		}
		t := node(n)
		src = src[end:]
		if strings.HasPrefix(src, "(") {
			t.Kids, src = readRow(src[1:])
			src = src[1:]
		}
		row = append(row, t)
	}
}

// told tells a tree as read reads it.
func told(t api.Tree) string {
	s := strconv.Itoa(t.Rule)
	if len(t.Kids) == 0 {
		return s
	}
	var kids []string
	for _, kid := range t.Kids {
		kids = append(kids, told(kid))
	}
	return s + "(" + strings.Join(kids, " ") + ")"
}

// step makes a step without Empty, of templates with `;` between.
func step(g api.Grammar, src string) api.Step {
	s := api.Step{G: g}
	for _, l := range strings.Split(src, ";") {
		s.Frags = append(s.Frags, parts(l))
	}
	return s
}

// brief tells the beginning of what is long.
func brief(x any) string {
	s := fmt.Sprint(x)
	if len(s) > 300 {
		return s[:300] + ".."
	}
	return s
}

func wantCheck(t *testing.T, old api.Grammar, s api.Step, code, at int) {
	t.Helper()
	want := api.Fault{Code: code, At: at}
	if f := Check(old, s); f != want {
		t.Errorf("Check: fault %v, want %v", f, want)
	}
}

func wantBack(t *testing.T, old api.Grammar, s api.Step, x api.Tree, want string) {
	t.Helper()
	got, f := Back(old, s, x)
	if f != (api.Fault{}) || told(got) != want {
		t.Errorf("Back of %s: %s, fault %v, want %s", brief(told(x)), brief(told(got)), f, brief(want))
	}
}

// wantNoBack: with a fault, the tree is zero.
func wantNoBack(t *testing.T, old api.Grammar, s api.Step, x api.Tree, code, at int) {
	t.Helper()
	want := api.Fault{Code: code, At: at}
	got, f := Back(old, s, x)
	if f != want || got.Rule != 0 || got.Kids != nil {
		t.Errorf("Back: tree %s, fault %v, want %v", brief(told(got)), f, want)
	}
}

// wantWrong: what Check tells, Back tells, whatever the tree.
func wantWrong(t *testing.T, old api.Grammar, s api.Step, code, at int) {
	t.Helper()
	wantCheck(t, old, s, code, at)
	wantNoBack(t, old, s, node(0), code, at)
	wantNoBack(t, old, s, node(-1), code, at)
	wantNoBack(t, old, s, node(7, make([]api.Tree, 500)...), code, at)
}

func wantPlug(t *testing.T, out string, k int, in string, n int, want string) {
	t.Helper()
	if got := written(Plug(parts(out), k, parts(in), n)); got != written(parts(want)) {
		t.Errorf("Plug(%s, %d, %s, %d): %s, want %s", out, k, in, n, got, want)
	}
}

// P9.1: what is wrong with grammars, with Empty, and with how many templates there are.

// oldOnes: the old grammar of most tests of Check: a tree of 0 with the empty word is 0, or 1(.. 0 ..).
func oldOnes() api.Grammar { return grammar(2, "0 >; 0 > 0; 0 > #0; 1 >") }

// plain: a step of templates that are right.
func plain() api.Step {
	return step(grammar(2, "0 > #0; 0 > 0 #0 1; 1 > 1"), "n2; n1(h0) n3 f1(n3 g); h0")
}

func TestCheckOfWhatIsRight(t *testing.T) {
	wantCheck(t, oldOnes(), plain(), 0, 0)
	wantCheck(t, api.Grammar{Vars: 1}, api.Step{G: api.Grammar{Vars: 1}}, 0, 0)
	for _, l := range []string{
		"h0 h1", "h1 h0", "n0(h0 h1)", "n0(h0) n1(h1)", "f0(h1)", "f1(h0)", "f0 f1", "f0() h1", "f0(f1(g))", "f1(f0(g))", "h1 f0(g)", "g h0 g h1 g",
		"n3(n2(n1(n0(h1(g) f0))))", "g n0(g n0(g f1(g n0(g h0))))", "f0(n0(f1(n0(g g))) n0)", "n3 n2 h0 n0 h1 n1",
	} {
		for _, r := range []string{"0 > 0 1", "1 > 1 1", "0 > #0 0 #1 0 #2", "0 > #0 #1 #2 1 0"} {
			wantCheck(t, oldOnes(), step(grammar(2, r), l), 0, 0)
		}
	}
	for _, l := range []string{"", "g", "n0", "n0 n1", "n0(n1(n2) g)", "g g"} {
		wantCheck(t, oldOnes(), step(grammar(1, "0 > #1 #0"), l), 0, 0)
		wantCheck(t, oldOnes(), step(grammar(1, "0 >"), l), 0, 0)
	}
}

type wrongGrammar struct {
	g        api.Grammar
	code, at int
}

func wrongGrammars() []wrongGrammar {
	return []wrongGrammar{
		{api.Grammar{}, api.ErrRange, -1},
		{api.Grammar{Vars: 65}, api.ErrRange, -1},
		{api.Grammar{Vars: math.MinInt}, api.ErrRange, -1},
		{api.Grammar{Vars: 1, Terms: 17}, api.ErrRange, -1},
		{api.Grammar{Vars: 2, Start: 2}, api.ErrRange, -1},
		{api.Grammar{Vars: 1, Rules: make([]api.Rule, 161)}, api.ErrMany, -1},
		{api.Grammar{Vars: 1, Rules: []api.Rule{rule(0), rule(0, make([]int, 11)...)}}, api.ErrMany, 1},
		{api.Grammar{Vars: 1, Rules: []api.Rule{rule(0), rule(1)}}, api.ErrRange, 1},
		{api.Grammar{Vars: 1, Rules: []api.Rule{rule(0), rule(0), rule(0), rule(0, -1)}}, api.ErrRange, 3},
	}
}

// The old grammar's fault comes first, then the new one's, whatever else is wrong.
func TestGrammarsFaultsComeFirst(t *testing.T) {
	worse := func(s api.Step) api.Step {
		s.Empty = make([]api.Tree, 201)
		s.Frags = s.Frags[:1]
		return s
	}
	for _, c := range wrongGrammars() {
		wantWrong(t, c.g, plain(), c.code, c.at)
		wantWrong(t, c.g, worse(plain()), c.code, c.at)
		wantWrong(t, c.g, api.Step{}, c.code, c.at)
		for _, d := range wrongGrammars() {
			s := plain()
			s.G = d.g
			wantWrong(t, c.g, s, c.code, c.at)
			wantWrong(t, oldOnes(), s, d.code, d.at)
			wantWrong(t, oldOnes(), worse(s), d.code, d.at)
		}
	}
}

func withEmpty(s api.Step, trees ...api.Tree) api.Step {
	s.Empty = trees
	return s
}

// line: n trees of the rule i, one in the other, the last one of the rule last.
func line(n, i, last int) api.Tree {
	t := node(last)
	for range n - 1 {
		t = node(i, t)
	}
	return t
}

func TestCheckOfEmpty(t *testing.T) {
	for _, x := range []string{"0", "1(0)", "1(1(1(0)))"} {
		wantCheck(t, oldOnes(), withEmpty(plain(), read(x)), 0, 0)
		wantCheck(t, oldOnes(), withEmpty(plain(), read("0"), read(x), read("0"), read(x)), 0, 0)
	}
	wantCheck(t, from(1, oldOnes()), withEmpty(plain(), read("3")), 0, 0)
	wantCheck(t, oldOnes(), withEmpty(plain()), 0, 0)
	for _, c := range []struct{ why, tree string }{
		{"a word that is not empty", "2"},
		{"a word that is not empty, below", "1(1(2))"},
		{"another nonterminal's", "3"},
		{"another nonterminal's, below", "1(3)"},
		{"no rule", "4"},
		{"no rule", "-1"},
		{"a tree too few", "1"},
		{"a tree too many", "0(0)"},
		{"a tree too many", "1(0 0)"},
		{"none, below", "1(1(1))"},
	} {
		for at := range 4 {
			list := slices.Repeat([]api.Tree{read("1(0)")}, 4)
			wantCheck(t, oldOnes(), withEmpty(plain(), list...), 0, 0)
			list[at] = read(c.tree)
			wantWrong(t, oldOnes(), withEmpty(plain(), list...), api.ErrTree, -1)
			if t.Failed() {
				t.Fatal(c.why)
			}
		}
	}
	// It is the old grammar's Start that counts.
	wantCheck(t, from(1, oldOnes()), withEmpty(plain(), read("0")), api.ErrTree, -1)
	s := plain()
	s.G.Start = 1
	wantCheck(t, oldOnes(), withEmpty(s, read("0")), 0, 0)
	wantCheck(t, oldOnes(), withEmpty(s, read("3")), api.ErrTree, -1)
}

func TestCheckCountsTreesOfEmpty(t *testing.T) {
	for n := 195; n <= 206; n++ {
		fine, many := 0, 0
		wrong := api.ErrTree
		if n > 200 {
			fine, many, wrong = api.ErrMany, -1, api.ErrMany
		}
		list := slices.Repeat([]api.Tree{read("0")}, n)
		wantCheck(t, oldOnes(), withEmpty(plain(), list...), fine, many)
		for _, at := range []int{0, n / 2, n - 1} {
			worse := slices.Clone(list)
			worse[at] = read("2")
			wantWrong(t, oldOnes(), withEmpty(plain(), worse...), wrong, -1)
		}
	}
	// One that has too many nodes is none.
	for n := 395; n <= 406; n++ {
		code, at := 0, 0
		if n > 400 {
			code, at = api.ErrTree, -1
		}
		wantCheck(t, oldOnes(), withEmpty(plain(), read("0"), line(n, 1, 0), read("0")), code, at)
		wantCheck(t, oldOnes(), withEmpty(plain(), line(n, 1, 0), line(n, 1, 0)), code, at)
		wantCheck(t, oldOnes(), withEmpty(plain(), line(n, 1, 2)), api.ErrTree, -1)
	}
	// How many nodes they have in all does not count.
	wantCheck(t, oldOnes(), withEmpty(plain(), slices.Repeat([]api.Tree{line(400, 1, 0)}, 200)...), 0, 0)
}

func TestCheckCountsTemplates(t *testing.T) {
	for _, rules := range []int{0, 1, 2, 160} {
		g := api.Grammar{Vars: 1, Rules: make([]api.Rule, rules)}
		for n := range 165 {
			code, at := 0, 0
			if n != rules {
				code, at = api.ErrFrag, -1
			}
			wantCheck(t, oldOnes(), api.Step{G: g, Frags: make([][]api.Frag, n)}, code, at)
		}
	}
	// Empty comes ahead of it, and it ahead of the templates.
	s := plain()
	for _, l := range [][][]api.Frag{nil, s.Frags[:2], append(plain().Frags, nil)} {
		s.Frags = l
		wantWrong(t, oldOnes(), s, api.ErrFrag, -1)
		wantWrong(t, oldOnes(), withEmpty(s, read("0"), read("2")), api.ErrTree, -1)
		wantWrong(t, oldOnes(), withEmpty(s, make([]api.Tree, 201)...), api.ErrMany, -1)
	}
	s.Frags = [][]api.Frag{parts("x"), make([]api.Frag, 61)}
	wantWrong(t, oldOnes(), s, api.ErrFrag, -1)
	wantWrong(t, oldOnes(), withEmpty(s, read("2")), api.ErrTree, -1)
}

// P9.1: what is wrong with a template.

// among lays a template at the number i of four, the others being right.
func among(i int, l []api.Frag) api.Step {
	s := step(grammar(2, "0 > #0; 0 > 0 #0 1; 1 > 1; 0 > 1 1"), "n2; n1(h0) n3 f1(n3 g); h0; n0(h1) h0")
	s.Frags[i] = l
	return s
}

// wantTemplate asks of the template of a rule with so many kids, at each number.
func wantTemplate(t *testing.T, kids int, l []api.Frag, code int) {
	t.Helper()
	for i := range 4 {
		s := among(i, l)
		s.G.Rules[i].Right = append(make([]int, kids), -1)
		if code == 0 {
			wantCheck(t, oldOnes(), s, 0, 0)
		} else {
			wantWrong(t, oldOnes(), s, code, i)
		}
	}
	if t.Failed() {
		t.Fatal(brief(written(l)))
	}
}

func TestCheckOfPartsOfNoKind(t *testing.T) {
	for _, op := range []int{math.MinInt, -1, 0, 5, 6, 1 << 32, math.MaxInt} {
		for n := range 4 {
			x := part(op, n)
			wantTemplate(t, 0, row(x), api.ErrFrag)
			wantTemplate(t, 0, row(part(api.FGap, 0), x), api.ErrFrag)
			wantTemplate(t, 0, row(part(api.FNode, 0, x)), api.ErrFrag)
			wantTemplate(t, 0, row(part(api.FNode, 0, part(api.FNode, 1), part(api.FNode, 2, part(api.FGap, 0), x))), api.ErrFrag)
			wantTemplate(t, 1, row(part(api.FFill, 0, part(api.FNode, 1), x)), api.ErrFrag)
			wantTemplate(t, 1, row(part(op, 0, part(api.FHole, 0))), api.ErrFrag)
			wantTemplate(t, 1, row(part(op, 0), part(api.FHole, 0)), api.ErrFrag)
			wantTemplate(t, 1, row(part(op, 0)), api.ErrFrag)
		}
	}
}

func TestCheckOfNumbers(t *testing.T) {
	far := []int{math.MinInt, -1 << 32, -161, -5, -2, -1, 0, 1, 2, 3, 4, 5, 9, 10, 11, 159, 160, 1 << 32, 1<<32 + 1, math.MaxInt}
	for _, n := range far {
		// The rules are four.
		code := 0
		if n < 0 || n > 3 {
			code = api.ErrFrag
		}
		x := part(api.FNode, n)
		wantTemplate(t, 0, row(x), code)
		wantTemplate(t, 0, row(part(api.FNode, 0), x), code)
		wantTemplate(t, 0, row(part(api.FNode, n, part(api.FNode, 0))), code)
		wantTemplate(t, 0, row(part(api.FNode, 3, part(api.FNode, 3, x))), code)
		wantTemplate(t, 1, row(part(api.FFill, 0, part(api.FGap, 0), x)), code)
		wantTemplate(t, 0, row(part(api.FGap, n)), 0)
		for kids := range 11 {
			others := make([]api.Frag, 0, kids)
			for i := range kids {
				if i != n {
					others = append(others, part(api.FHole, i))
				}
			}
			code := 0
			if n < 0 || n >= kids {
				code = api.ErrFrag
			}
			if len(others)+1 != kids && code == 0 {
				t.Fatal("that is no template")
			}
			for _, x := range []api.Frag{part(api.FHole, n), part(api.FFill, n), part(api.FNode, 0, part(api.FHole, n)), part(api.FNode, 1, part(api.FNode, 1), part(api.FFill, n, part(api.FGap, 0)))} {
				if kids < 10 {
					wantTemplate(t, kids, append(slices.Clip(others), x), code)
					wantTemplate(t, kids, append(row(x), others...), code)
				}
			}
		}
	}
}

// The rules are those of the old grammar, at its edge; of the new one there are others.
func TestCheckOfRulesIsOfTheOldGrammar(t *testing.T) {
	for rules := range 161 {
		old := api.Grammar{Vars: 1, Rules: make([]api.Rule, rules)}
		g := api.Grammar{Vars: 1, Rules: make([]api.Rule, 80)}
		s := api.Step{G: g, Frags: make([][]api.Frag, 80)}
		wantCheck(t, old, s, 0, 0)
		s.Frags[7] = row(part(api.FNode, rules-1))
		if rules > 0 {
			wantCheck(t, old, s, 0, 0)
		}
		s.Frags[7] = row(part(api.FNode, rules))
		wantCheck(t, old, s, api.ErrFrag, 7)
	}
}

func TestCheckOfKids(t *testing.T) {
	for _, c := range []struct {
		kids int
		l    []string
	}{
		{0, []string{"h0", "f0", "f0(g)", "n0(h0)", "n0(f0(n1))"}},
		{1, []string{
			"", "g", "n0", "n0(g n1)", // not at all
			"h0 h0", "f0 f0", "n0(h0) h0", "n0(h0 h0)", "h0 n0(n0(n0(h0)))", "n0(f0) n0(f0)", // twice
			"h0 f0", "f0 h0", "f0(h0)", "f0(f0(g))", "n0(f0 h0)", "h0 n0(f0(g))", "f0(n0(h0))", // by either
			"h0 h0 h0", "f0(h0) h0", "h1", "h0 h1", "h-1", "h0 h-1", "f0(h1)", "f0(h-1)",
		}},
		{2, []string{
			"h0", "h1", "f0", "f1", "f0(g)", "n0(h1)", "h0 h0", "h1 h1", "f0(f0)", "f1(h1)", "h0 f0(g)",
			"h0 h1 h0", "h0 h1 h1", "h0 f1(h0)", "h0 f1(h1)", "f0(h1) n0(h1)", "n0(h0 h1) n0(f0)", "f0(f1(f0))", "h1 h2", "h0 h2", "h0 h1 h2", "h0 h1 h-1",
		}},
		{3, []string{"h0 h1", "h0 h2", "h1 h2", "h0 h2 h2", "h0 h0 h2", "h0 h0 h1 h1 h2 h2", "h0 h1 h2 n0(n0(f1(n0)))", "f0(f1(f2(f0)))", "h0 h1 h1"}},
	} {
		for _, l := range c.l {
			wantTemplate(t, c.kids, parts(l), api.ErrFrag)
		}
	}
	// Terminals are no kids.
	old := grammar(1, "0 > #0 #1 0 #2 #0; 0 >")
	wantCheck(t, old, step(old, "n0(h0); n1"), 0, 0)
	wantCheck(t, old, step(old, "n0(h1); n1"), api.ErrFrag, 0)
	wantCheck(t, old, step(old, "n0(h2); n1"), api.ErrFrag, 0)
	wantCheck(t, old, step(old, "n0(h0); n1(h0)"), api.ErrFrag, 1)
	wantCheck(t, old, step(old, "n0(h0 h1); n1"), api.ErrFrag, 0)
}

// What stands in an FHole or an FGap is not looked at.
func TestCheckLooksIntoNoHoleAndNoGap(t *testing.T) {
	for _, l := range []string{"x", "y7", "n-1", "n4", "h0", "h5", "f0", "f-1(h0)", "n0(h0(h0))", "g(x)", "h0 h0 h0"} {
		in := parts(l)
		wantTemplate(t, 0, row(part(api.FGap, 0, in...)), 0)
		wantTemplate(t, 1, row(part(api.FHole, 0, in...)), 0)
		wantTemplate(t, 1, row(part(api.FNode, 1, part(api.FGap, 0, in...)), part(api.FFill, 0, part(api.FGap, 0, in...))), 0)
		wantTemplate(t, 2, row(part(api.FFill, 1, part(api.FHole, 0, in...))), 0)
	}
	// A kid that is used there alone is not used.
	wantTemplate(t, 1, parts("g(h0)"), api.ErrFrag)
	wantTemplate(t, 1, parts("n0(g(f0))"), api.ErrFrag)
	wantTemplate(t, 2, parts("h0(h1)"), api.ErrFrag)
	wantTemplate(t, 2, parts("n0(h1(f0(g)))"), api.ErrFrag)
}

// P9.1: how many parts.

// nested: n parts of the rule 0, one in the other, and then l in the last one.
func nested(n int, l ...api.Frag) []api.Frag {
	for range n {
		l = row(part(api.FNode, 0, l...))
	}
	return l
}

func TestCheckCountsParts(t *testing.T) {
	gaps := func(n int) []api.Frag { return slices.Repeat(row(part(api.FGap, 0)), n) }
	noKind := func(n int) []api.Frag { return slices.Repeat(row(part(9, 0)), n) }
	for n := 55; n <= 66; n++ {
		code, wrong := 0, api.ErrFrag
		if n > 60 {
			code, wrong = api.ErrMany, api.ErrMany
		}
		// At one depth, at several, at each another one.
		wantTemplate(t, 0, gaps(n), code)
		wantTemplate(t, 0, row(part(api.FNode, 0, gaps(n-1)...)), code)
		wantTemplate(t, 0, nested(n), code)
		wantTemplate(t, 0, append(nested(n-20), gaps(20)...), code)
		wantTemplate(t, 0, append(gaps(20), nested(n-20)...), code)
		wantTemplate(t, 0, nested(20, gaps(n-20)...), code)
		wantTemplate(t, 0, append(nested(n/3), append(nested(n/3), nested(n-2*(n/3))...)...), code)
		wantTemplate(t, 1, row(part(api.FFill, 0, gaps(n-1)...)), code)
		wantTemplate(t, 1, row(part(api.FFill, 0, nested(n-1)...)), code)
		wantTemplate(t, 2, row(part(api.FFill, 0, part(api.FFill, 1, nested(7, gaps(n-9)...)...))), code)
		wantTemplate(t, 1, append(nested(n-1), part(api.FHole, 0)), code)
		// Ahead of ErrFrag.
		wantTemplate(t, 0, noKind(n), wrong)
		wantTemplate(t, 1, gaps(n), wrong)
		wantTemplate(t, 0, append(row(part(api.FNode, 4)), gaps(n-1)...), wrong)
		wantTemplate(t, 0, append(gaps(n-1), part(api.FNode, -1)), wrong)
		wantTemplate(t, 0, append(row(part(api.FHole, 0)), gaps(n-1)...), wrong)
		wantTemplate(t, 0, row(part(0, 0, gaps(n-1)...)), wrong)
		wantTemplate(t, 0, row(part(api.FNode, 5, nested(n-1)...)), wrong)
		wantTemplate(t, 1, row(part(api.FFill, 0, append(gaps(n-2), part(api.FHole, 0))...)), wrong)
	}
	// What stands in an FHole or an FGap does not count.
	full := gaps(59)
	full = append(full, part(api.FGap, 0, gaps(200)...))
	wantTemplate(t, 0, full, 0)
	full[59] = part(api.FHole, 0, nested(200)...)
	wantTemplate(t, 1, full, 0)
	full = append(full, part(api.FGap, 0))
	wantTemplate(t, 1, full, api.ErrMany)
}

// Rule by rule: the first one at which anything is wrong is told, whatever it is.
func TestCheckGoesRuleByRule(t *testing.T) {
	many, wrong := nested(61), parts("n9")
	for i := range 4 {
		for j := range 4 {
			code := api.ErrFrag
			if i < j {
				code = api.ErrMany
			}
			s := among(i, many)
			s.Frags[j] = wrong
			wantWrong(t, oldOnes(), s, code, min(i, j))
			wantWrong(t, oldOnes(), withEmpty(s, read("3")), api.ErrTree, -1)
			wantWrong(t, oldOnes(), withEmpty(s, make([]api.Tree, 201)...), api.ErrMany, -1)
		}
	}
}
