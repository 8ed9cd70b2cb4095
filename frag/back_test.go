package frag

import (
	"slices"
	"strconv"
	"strings"
	"testing"

	"graftwork/api"
	"graftwork/gram"
	"graftwork/tree"
)

// The document's.

// S > S a, S > b, and what turn makes of it: S > b, S > b N, N > a, N > a N.
func turned() (old api.Grammar, s api.Step) {
	g := grammar(2, "0 > #1; 0 > #1 1; 1 > #0; 1 > #0 1")
	return grammar(1, "0 > 0 #0; 0 > #1"), step(g, "n1; f0(n1); n0(g); f0(n0(g))")
}

func TestBackOfTheDocument(t *testing.T) {
	old, s := turned()
	wantCheck(t, old, s, 0, 0)
	wantBack(t, old, s, read("1(3(2))"), "0(0(1))")
	wantBack(t, old, s, read("0"), "1")
	wantBack(t, old, s, read("1(2)"), "0(1)")
	wantBack(t, old, s, read("1(3(3(3(2))))"), "0(0(0(0(1))))")
}

// passed: a step as a pass of the document makes it, the grammar that it is of, and how many nodes of a tree of each are gone through.
type passed struct {
	why      string
	old      api.Grammar
	s        api.Step
	were, so int
}

func passes() []passed {
	old, s := turned()
	thin := step(grammar(2, "0 > 1 #0 1; 0 > 1 #0; 0 > #0 1; 0 > #0; 1 > #1; 0 > 1"),
		"n0(h0 h1); n0(h0 n1); n0(n1 h0); n0(n1 n1); n2; n3(h0)")
	thin.Empty = []api.Tree{read("3(1)")}
	return []passed{
		{"turn", old, s, 7, 7},
		{
			"turn, where more than one begins with itself",
			grammar(2, "0 > 0 #0; 0 > 0 #1 0; 0 > #2; 0 > 1; 1 > #0"),
			step(grammar(3, "0 > #2; 0 > #2 2; 0 > 1; 0 > 1 2; 1 > #0; 2 > #0; 2 > #0 2; 2 > #1 0; 2 > #1 0 2"),
				"n2; f0(n2); n3(h0); f1(n3(h0)); n4; n0(g); f0(n0(g)); n1(g h0); f1(n1(g h0))"),
			5, 6,
		},
		{
			"split",
			grammar(2, "0 > #0 0 1 #1 0; 0 > #2; 1 > 0 1; 1 >; 0 > 0 0 0"),
			step(grammar(8, "2 > #0; 3 > #1; 0 > 2 4; 4 > 0 5; 5 > 1 6; 6 > 3 0; 0 > #2; 1 > 0 1; 1 >; 0 > 0 7; 7 > 0 0"),
				" ; ; n0(h0 h1); h0 h1; h0 h1; h0 h1; n1; n2(h0 h1); n3; n4(h0 h1); h0 h1"),
			7, 17,
		},
		{
			"factor",
			grammar(2, "0 > #0 0 1; 0 > #1; 0 > #0 0; 0 > #0 0 1 #2 1; 1 > #2 1; 1 > #2"),
			step(grammar(5, "0 > #0 0 2; 0 > #1; 1 > #2 3; 2 > 1 4; 2 >; 3 > 1; 3 >; 4 >; 4 > #2 1"),
				"f1(h0); n1; f0(); f1(g h0); n2(g); n4(g h0); n5(g); n0(g); n3(g h0)"),
			5, 12,
		},
		{"thin", grammar(2, "0 > 1 #0 1; 1 >; 1 > #1; 0 > 1"), thin, 9, 9},
		{
			"short",
			grammar(3, "0 > 1; 1 > 2; 2 > #0; 2 > #1 0; 0 > #2"),
			step(grammar(3, "0 > #0; 0 > #1 0; 0 > #2; 1 > #0; 1 > #1 0; 2 > #0; 2 > #1 0"),
				"n0(n1(n2)); n0(n1(n3(h0))); n4; n1(n2); n1(n3(h0)); n2; n3(h0)"),
			12, 9,
		},
	}
}

// shapes answers all trees of v with at most room nodes.
func shapes(g api.Grammar, v, room int) (out []api.Tree) {
	if room < 1 {
		return nil
	}
	for _, i := range gram.By(g, v) {
		for _, kids := range shapeRows(g, gram.Kids(g.Rules[i]), room-1) {
			out = append(out, node(i, kids...))
		}
	}
	return out
}

func shapeRows(g api.Grammar, of []int, room int) [][]api.Tree {
	if len(of) == 0 {
		return [][]api.Tree{nil}
	}
	var out [][]api.Tree
	for _, first := range shapes(g, of[0], room-len(of)+1) {
		for _, rest := range shapeRows(g, of[1:], room-nodes(first)) {
			out = append(out, append([]api.Tree{first}, rest...))
		}
	}
	return out
}

func nodes(row ...api.Tree) int {
	n := len(row)
	for _, t := range row {
		n += nodes(t.Kids...)
	}
	return n
}

// What Back is for: each tree is led back to one of the old grammar with the same word, no two to the same one, and none of the old grammar is missed.
func TestTreesOfPassesAreLedBack(t *testing.T) {
	for _, p := range passes() {
		wantCheck(t, p.old, p.s, 0, 0)
		seen := map[string]bool{}
		for _, x := range shapes(p.s.G, 0, p.so) {
			got, f := Back(p.old, p.s, x)
			want, _ := tree.Word(p.s.G, x)
			w, ff := tree.Word(p.old, got)
			if f.Code != 0 || ff.Code != 0 || !slices.Equal(w, want) || seen[told(got)] {
				t.Errorf("%s: %s is led back to %s, fault %v, with the word %v, want %v", p.why, told(x), told(got), f, w, want)
			}
			seen[told(got)] = true
		}
		for _, x := range p.s.Empty {
			seen[told(x)] = true
		}
		all := shapes(p.old, 0, p.were)
		for _, x := range all {
			if !seen[told(x)] {
				t.Errorf("%s: nothing is led back to %s", p.why, told(x))
			}
		}
		if len(all) < 5 {
			t.Errorf("%s: %d trees alone", p.why, len(all))
		}
	}
}

// P9.2: what a row of parts makes.

// wide: a grammar whose rule i is i times 0.
func wide() api.Grammar {
	g := api.Grammar{Vars: 1}
	for i := range 11 {
		g.Rules = append(g.Rules, rule(0, make([]int, i)...))
	}
	return g
}

// making makes a step of templates, each behind the number of its rule's kids.
func making(src string) api.Step {
	s := api.Step{G: api.Grammar{Vars: 1}}
	for _, l := range strings.Split(src, ";") {
		count, l, _ := strings.Cut(strings.TrimSpace(l)+" ", " ")
		n, _ := strconv.Atoi(count)
		s.G.Rules = append(s.G.Rules, rule(0, make([]int, n)...))
		s.Frags = append(s.Frags, parts(l))
	}
	return s
}

func wantMade(t *testing.T, src, x, want string) {
	t.Helper()
	wantBack(t, wide(), making(src), read(x), want)
}

func wantNotMade(t *testing.T, src, x string, code int) {
	t.Helper()
	wantNoBack(t, wide(), making(src), read(x), code, -1)
}

func TestNodesAndHoles(t *testing.T) {
	wantMade(t, "0 n0", "0", "0")
	wantMade(t, "0 n2(n0 n1(n0))", "0", "2(0 1(0))")
	wantMade(t, "1 n1(h0); 0 n0", "0(0(0(1)))", "1(1(1(0)))")
	wantMade(t, "1 h0; 0 n0", "0(0(0(1)))", "0")
	wantMade(t, "2 n2(h0 h1); 0 n0; 0 n1(n0)", "0(1 2)", "2(0 1(0))")
	wantMade(t, "2 n2(h1 h0); 0 n0; 0 n1(n0)", "0(1 2)", "2(1(0) 0)")
	wantMade(t, "2 n2(h1 h0); 0 n0; 0 n1(n0)", "0(0(1 2) 2)", "2(1(0) 2(1(0) 0))")
	wantMade(t, "3 n3(h2 n1(h0) n2(n0 h1)); 0 n0; 0 n1(n0); 0 n1(n1(n0))", "0(1 2 3)", "3(1(1(0)) 1(0) 2(0 1(0)))")
	// Rows of no tree, and of more than one.
	wantMade(t, "1 n0(h0); 0", "0(1)", "0")
	wantMade(t, "1 n1(h0 n0); 0", "0(1)", "1(0)")
	wantMade(t, "1 n3(h0); 0 n0 n1(n0) n0", "0(1)", "3(0 1(0) 0)")
	wantMade(t, "1 n5(n0 h0 n0); 0 n0 n1(n0) n0", "0(1)", "5(0 0 1(0) 0 0)")
	wantMade(t, "2 n4(h0 h1); 1 h0 n0; 0 n1(n0); 0", "0(1(1(2)) 1(3))", "4(1(0) 0 0 0)")
	wantMade(t, "2 n4(h1 h0); 1 n0 h0; 0 n1(n0); 0", "0(1(1(2)) 1(3))", "4(0 0 0 1(0))")
	wantMade(t, "2 h0 h1; 0; 0 n0", "0(0(1 1) 0(2 1))", "0")
	wantMade(t, "1 n5(h0); 2 n0 h0 h1; 0 n1(n0)", "0(1(1(2 2) 2))", "5(0 0 1(0) 1(0) 1(0))")
}

func TestGaps(t *testing.T) {
	const kids = "; 0 g; 0 n1(g); 0 n3(g n1(g) n1(n1(g))); 0 g g; 0 g n1(g) g; 0 n0; 0"
	for _, c := range []struct{ top, x, want string }{
		// In the place of each gap, at any depth, what L makes.
		{"1 f0(n0)", "0(1)", "0"},
		{"1 f0(n0)", "0(2)", "1(0)"},
		{"1 f0(n0)", "0(3)", "3(0 1(0) 1(1(0)))"},
		{"1 f0(n2(n0 n1(n0)))", "0(3)", "3(2(0 1(0)) 1(2(0 1(0))) 1(1(2(0 1(0)))))"},
		{"1 n2(f0(n0))", "0(4)", "2(0 0)"},
		{"1 n3(f0(n0))", "0(5)", "3(0 1(0) 0)"},
		{"1 n5(n0 f0(n0) n0)", "0(5)", "5(0 0 1(0) 0 0)"},
		// No gap, or no row.
		{"1 f0(n0)", "0(6)", "0"},
		{"1 f0(n3(n0))", "0(6)", "0"},
		{"1 n0(f0(n0))", "0(7)", "0"},
		{"1 n1(f0(n0) n0)", "0(7)", "1(0)"},
		{"1 n0(f0())", "0(1)", "0"},
		{"1 n0(f0)", "0(4)", "0"},
		// L that makes no row of one.
		{"1 n2(f0(n0 n0))", "0(1)", "2(0 0)"},
		{"1 n4(f0(n0 n1(n0)))", "0(4)", "4(0 1(0) 0 1(0))"},
		{"1 n1(f0() n0)", "0(4)", "1(0)"},
		// L of kids, and in it others.
		{"2 f0(h1)", "0(3 6)", "3(0 1(0) 1(1(0)))"},
		{"2 f1(h0)", "0(6 3)", "3(0 1(0) 1(1(0)))"},
		{"2 n2(f0(h1 n0))", "0(1 6)", "2(0 0)"},
		{"2 f0(f1(n0))", "0(2 2)", "1(1(0))"},
		{"2 f0(n1(f1(n0)))", "0(2 3)", "1(1(3(0 1(0) 1(1(0)))))"},
		{"2 n4(f0(f1(n0)))", "0(4 4)", "4(0 0 0 0)"},
		{"3 f0(f1(f2(n0)))", "0(2 3 2)", "1(3(1(0) 1(1(0)) 1(1(1(0)))))"},
	} {
		wantMade(t, c.top+kids, c.x, c.want)
	}
}

// An FFill fills the gaps of its kid alone; those that L makes are for whoever uses the row.
func TestGapsThatAreHandedOn(t *testing.T) {
	const src = "1 f0(n0); 1 f0(n1(g)); 1 h0; 1 n1(h0); 0 n2(g g); 2 f0(h1); 1 f0(g g); 1 n2(f0(n0)); 0 g; 2 n2(h0 h1); 0 n1(g)"
	wantMade(t, src, "0(4)", "2(0 0)")
	wantMade(t, src, "0(1(4))", "2(1(0) 1(0))")
	wantMade(t, src, "0(1(1(4)))", "2(1(1(0)) 1(1(0)))")
	wantMade(t, src, "0(2(3(2(4))))", "1(2(0 0))")
	wantMade(t, src, "0(5(4 4))", "2(2(0 0) 2(0 0))")
	wantMade(t, src, "0(5(4 5(4 10)))", "2(2(1(0) 1(0)) 2(1(0) 1(0)))")
	wantMade(t, src, "7(6(8))", "2(0 0)")
	wantMade(t, src, "0(9(8 3(8)))", "2(0 1(0))")
	// What an FFill filled stays, what it left is filled above: 0 fills the gaps of both kids of 9.
	wantMade(t, src, "0(9(0(4) 4))", "2(2(0 0) 2(0 0))")
	wantMade(t, src, "9(0(4) 0(1(10)))", "2(2(0 0) 1(1(0)))")
	wantNotMade(t, src, "9(0(4) 1(10))", api.ErrOther)
}

// Neither the number of an FGap is looked at, nor what stands in an FGap or an FHole.
func TestWhatMakesNothing(t *testing.T) {
	wantMade(t, "2 f0(h1(n3 x9 h7)); 0 n1(g-8(n2)); 0 n0", "0(1 2)", "1(0)")
	wantMade(t, "1 f0(n0); 0 n3(g1 g2 g64(g g))", "0(1)", "3(0 0 0)")
	wantMade(t, "1 n1(h0(g)); 0 n0", "0(1)", "1(0)")
}

func TestBackOfWhatIsNoSingleTree(t *testing.T) {
	for _, c := range []struct{ why, src, tree string }{
		{"no tree", "0", "0"},
		{"no tree", "1 f0(n0); 0", "0(1)"},
		{"no tree", "1 f0(); 0 g", "0(1)"},
		{"two", "0 n0 n0", "0"},
		{"two", "2 h0 h1; 0 n0", "0(1 1)"},
		{"two", "1 f0(n0); 0 g g", "0(1)"},
		{"a gap", "0 g", "0"},
		{"a gap below", "0 n1(g)", "0"},
		{"a gap far below", "0 n2(n0 n2(n1(n1(g)) n0))", "0"},
		{"a gap beside", "0 n0 g", "0"},
		{"a gap beside", "0 g n0", "0"},
		{"a gap of a hole", "1 n1(h0); 0 g", "0(1)"},
		{"a gap of L", "1 f0(g); 0 n1(g)", "0(1)"},
		{"a tree too few", "0 n1", "0"},
		{"a tree too few", "1 n2(h0); 0 n0", "0(1)"},
		{"a tree too many", "0 n0(n0)", "0"},
		{"a tree too many below", "0 n1(n1(n0 n0))", "0"},
		{"a gap too many", "0 n0(g)", "0"},
		{"a gap too many", "1 f0(n0); 0 n1(g g)", "0(1)"},
	} {
		wantNotMade(t, c.src, c.tree, api.ErrOther)
		if t.Failed() {
			t.Fatal(c.why)
		}
	}
}

// It must be one of old's Start, wherever the new one begins.
func TestBackIsOfBothStarts(t *testing.T) {
	old := grammar(3, "0 > 1; 1 > #0; 2 > 0 1; 2 > 2 0")
	s := step(grammar(2, "0 >; 0 > ; 0 >; 0 >; 1 >; 1 >"), "n0(n1); n1; n2(n0(n1) n1); n3(n2(n0(n1) n1) n0(n1)); n2(n0(n1) n1); n2(n1 n1)")
	made := []string{"0(1)", "1", "2(0(1) 1)", "3(2(0(1) 1) 0(1))", "2(0(1) 1)", ""}
	starts := []int{0, 1, 2, 2, 2, 9}
	for was := range 3 {
		for is := range 2 {
			s.G.Start = is
			for i := range 6 {
				switch {
				case s.G.Rules[i].Left != is:
					wantNoBack(t, from(was, old), s, node(i), api.ErrTree, -1)
				case starts[i] != was:
					wantNoBack(t, from(was, old), s, node(i), api.ErrOther, -1)
				default:
					wantBack(t, from(was, old), s, node(i), made[i])
				}
			}
		}
	}
}

func TestBackOfWrongTrees(t *testing.T) {
	old, s := turned()
	for _, x := range []string{"-1", "4", "1", "2", "3(2)", "0(2)", "1(2 2)", "1(0)", "1(1(2))", "1(3)", "1(4)", "1(-1)", "1(3(2(2)))"} {
		wantNoBack(t, old, s, read(x), api.ErrTree, -1)
	}
	for n := 395; n <= 405; n++ {
		want := api.Fault{}
		if n > 400 {
			want = api.Fault{Code: api.ErrMany, At: -1}
		}
		x := node(1, line(n-1, 3, 2))
		if f := tree.Check(s.G, x, 0); f != want {
			t.Fatalf("a tree of %d nodes: fault %v", n, f)
		}
		if n > 400 {
			wantNoBack(t, old, s, x, api.ErrMany, -1)
			wantNoBack(t, old, s, line(n, 9, 9), api.ErrMany, -1)
			// Where it would make few.
			wantNoBack(t, wide(), making("1 h0; 0 n0"), line(n, 0, 1), api.ErrMany, -1)
		} else {
			wantBack(t, old, s, x, told(line(n, 0, 1)))
			wantNoBack(t, old, s, line(n, 9, 9), api.ErrTree, -1)
			wantBack(t, wide(), making("1 h0; 0 n0"), line(n, 0, 1), "0")
		}
	}
}

// P9.2: how much a row may have in it.

// heaps: the rules 1 to 11 beside the one that is asked of: they make rows of trees, of gaps, of both, at one depth and at several.
const heaps = "; 1 h0 n0 n0 n0 n0 n0; 1 h0 n0; 1 h0 g g g g g; 1 h0 g; 1 n1(h0); 1 n1(n1(n1(n1(n1(h0))))); 1 h0 n2(n0 g) g g; 0; 0 n0; 0 g; 2 f0(h1)"

// heap: a tree that makes n trees and gaps more than its last rule does, by a rule that makes five more, and one that makes one more.
func heap(n, five, one, last int) api.Tree {
	t := node(last)
	for range n / 5 {
		t = node(five, t)
	}
	for range n % 5 {
		t = node(one, t)
	}
	return t
}

func trees(n int) api.Tree { return heap(n, 1, 2, 8) }
func gaps(n int) api.Tree  { return heap(n, 3, 4, 8) }

// deep: a tree that makes n, one in the other, the last one being what its last rule makes.
func deep(n, last int) api.Tree { return heap(n-1, 6, 5, last) }

func TestBackCountsRows(t *testing.T) {
	for _, c := range []struct {
		why  string
		top  string
		make func(n int) api.Tree
	}{
		{"by the tree itself", "1 n1(h0)", func(n int) api.Tree { return node(0, deep(n-1, 9)) }},
		{"by a tree below", "1 h0", func(n int) api.Tree { return node(0, deep(n, 9)) }},
		{"by a row of trees, by a tree, around which they are dropped", "2 f0(h1)", func(n int) api.Tree { return node(0, node(9), trees(n)) }},
		{"by a row of gaps", "2 f0(h1)", func(n int) api.Tree { return node(0, node(9), gaps(n)) }},
		{"by a row of both", "2 f0(h1)", func(n int) api.Tree { return node(0, node(9), heap(n, 7, 2, 8)) }},
		{"at each depth one", "2 f0(h1)", func(n int) api.Tree { return node(0, node(9), deep(n, 9)) }},
		{"a gap at last", "2 f0(h1)", func(n int) api.Tree { return node(0, node(9), deep(n, 10)) }},
		{"by a row of parts", "2 f0(h1 n0)", func(n int) api.Tree { return node(0, node(9), trees(n-1)) }},
		{"by a row of parts", "2 f0(g g h1 g)", func(n int) api.Tree { return node(0, node(9), trees(n-3)) }},
		{"by a row of parts", "2 f0(n1(h1))", func(n int) api.Tree { return node(0, node(9), gaps(n-1)) }},
		{"by a row of parts", "2 f0(n1(n1(g h1) g))", func(n int) api.Tree { return node(0, node(9), deep(n-4, 9)) }},
		{"by a row of parts, of two kids", "3 f0(h1 h2)", func(n int) api.Tree { return node(0, node(9), trees(n-150), gaps(150)) }},
		{"by an FFill", "3 f0(f1(h2))", func(n int) api.Tree { return node(0, node(9), node(4, trees(n-120)), trees(120)) }},
		{"by an FFill, at depth", "3 f0(f1(h2))", func(n int) api.Tree { return node(0, node(9), deep(n-99, 10), trees(100)) }},
		{"by an FFill, gaps", "3 f0(f1(h2))", func(n int) api.Tree { return node(0, node(9), deep(n-99, 10), gaps(100)) }},
		{"by an FFill of many", "3 f0(n1(f1(h2)))", func(n int) api.Tree {
			x := gaps(19)
			for range n - 1 - 19*20 {
				x = node(2, x)
			}
			return node(0, node(9), x, trees(20))
		}},
		{"gaps that are filled with nothing", "1 n0(f0)", func(n int) api.Tree { return node(0, gaps(n)) }},
		{"trees that are dropped with others", "2 f0(f1)", func(n int) api.Tree { return node(0, node(9), trees(n)) }},
		{"what comes first", "2 f1(n0 h0)", func(n int) api.Tree { return node(0, trees(n-1), node(9)) }},
		{"far below", "1 h0", func(n int) api.Tree { return node(0, node(11, node(9), node(11, node(9), trees(n)))) }},
		{"nothing that is a tree of old", "1 h0", func(n int) api.Tree { return node(0, trees(n)) }},
		{"gaps that are left", "1 h0", func(n int) api.Tree { return node(0, gaps(n)) }},
	} {
		s := making(c.top + heaps)
		for n := 390; n <= 410; n++ {
			x := c.make(n)
			made, size, f := backText(wide(), s, x)
			got, ff := Back(wide(), s, x)
			if f != ff || told(got) != told(made) {
				t.Errorf("%s, of %d: %s, fault %v, want %s, fault %v", c.why, n, brief(told(got)), ff, brief(told(made)), f)
			}
			if size != n || (ff.Code == api.ErrMany) != (n > 400) {
				t.Errorf("%s, of %d: the greatest row is of %d; fault %v", c.why, n, size, ff)
			}
		}
	}
}

// A second way to what Back makes: rows are texts, `_` is a gap.

// rowText answers the row that parts make, and the size of the greatest one on the way, where it ends, if that is far too great.
func rowText(l []api.Frag, kids []string) (text string, most int) {
	for _, p := range l {
		below, size := "", 0
		if p.Op == api.FNode || p.Op == api.FFill {
			below, size = rowText(p.L, kids)
		}
		most = max(most, size)
		if most > 2*api.MaxNodes {
			return "", most
		}
		switch p.Op {
		case api.FNode:
			text += " " + strconv.Itoa(p.N) + "(" + below + ")"
		case api.FHole:
			text += kids[p.N]
		case api.FGap:
			text += " _"
		case api.FFill:
			text += strings.ReplaceAll(kids[p.N], " _", below)
		}
	}
	return text, max(most, strings.Count(text, " "))
}

func treeText(s api.Step, t api.Tree) (text string, most int) {
	var kids []string
	for _, kid := range t.Kids {
		below, size := treeText(s, kid)
		kids = append(kids, below)
		most = max(most, size)
		if most > 2*api.MaxNodes {
			return "", most
		}
	}
	text, size := rowText(s.Frags[t.Rule], kids)
	return text, max(most, size)
}

// backText answers what Back should, of steps that are right, and the size of the greatest row on the way.
func backText(old api.Grammar, s api.Step, t api.Tree) (api.Tree, int, api.Fault) {
	if f := tree.Check(s.G, t, s.G.Start); f.Code != 0 {
		return api.Tree{}, 0, f
	}
	text, most := treeText(s, t)
	if most > api.MaxNodes {
		return api.Tree{}, most, api.Fault{Code: api.ErrMany, At: -1}
	}
	row, _ := readRow(strings.ReplaceAll(text, "_", "-7"))
	if len(row) != 1 || tree.Check(old, row[0], old.Start).Code != 0 {
		return api.Tree{}, most, api.Fault{Code: api.ErrOther, At: -1}
	}
	return row[0], most, api.Fault{}
}
