package frag

import (
	"fmt"
	"math"
	"slices"
	"testing"

	"graftwork/api"
)

// P9.3: Plug.

func TestPlugInThePlaceOfHoles(t *testing.T) {
	for _, c := range []struct {
		out  string
		k    int
		in   string
		n    int
		want string
	}{
		// What is above k moves by n - 1, what is below stays.
		{"h0 h1 h2 h3", 1, "n5", 0, "h0 n5 h1 h2"},
		{"h0 h1 h2 h3", 1, "n5(h0)", 1, "h0 n5(h1) h2 h3"},
		{"h0 h1 h2 h3", 1, "n5(h0 h1)", 2, "h0 n5(h1 h2) h3 h4"},
		{"h0 h1 h2 h3", 1, "n5(h4 h3 h2 h1 h0)", 5, "h0 n5(h5 h4 h3 h2 h1) h6 h7"},
		{"h3 h2 h1 h0", 0, "n5(h0 h1)", 2, "h4 h3 h2 n5(h0 h1)"},
		{"h0 h1 h2 h3", 3, "n5(h0 h1)", 2, "h0 h1 h2 n5(h3 h4)"},
		{"f0 f1 f2 f3", 1, "n5", 0, "f0 n5 f1 f2"},
		{"f0(h4) f1 f2(f3)", 2, "f1(h0)", 2, "f0(h5) f1 f3(h2)"},
		// At any depth.
		{"n0(h0 n1(h1 n2(h2)))", 1, "n5 n6(h0)", 1, "n0(h0 n1(n5 n6(h1) n2(h2)))"},
		{"n0(n1(n2(n3(h2 h1))) h0)", 1, "n5(n6(n7(h1) h0))", 2, "n0(n1(n2(n3(h3 n5(n6(n7(h2) h1))))) h0)"},
		{"f2(f0(h1(g)) h3)", 1, "n5", 0, "f1(f0(n5) h2)"},
		{"f2(n0(f0(n1(h1))) h3)", 0, "f1(n5(f0))", 2, "f3(n0(f1(n5(f0))) h4)"},
		// Rows of none and of more than one.
		{"n0(h0)", 0, "", 0, "n0"},
		{"h0 h1 h2", 1, "", 0, "h0 h1"},
		{"n0(h0 h1)", 0, "h0 h1 h2", 3, "n0(h0 h1 h2 h3)"},
		{"h0", 0, "h0", 1, "h0"},
		{"", 0, "n5", 0, ""},
		{"n0 g", 0, "n5(h0)", 1, "n0 g"},
		// A kid that is used more than once, or not at all.
		{"h1 n0(h1) h1", 1, "n5(h0)", 1, "n5(h1) n0(n5(h1)) n5(h1)"},
		{"h0 h2", 1, "n5(h0 h1)", 2, "h0 h3"},
		// A gap stays, whose template it ever is.
		{"g h0 n0(g h0)", 0, "g n5(g) g", 0, "g g n5(g) g n0(g g n5(g) g)"},
	} {
		wantPlug(t, c.out, c.k, c.in, c.n, c.want)
	}
}

func TestPlugInThePlaceOfFills(t *testing.T) {
	for _, c := range []struct {
		out  string
		k    int
		in   string
		n    int
		want string
	}{
		{"f0(n9)", 0, "g", 0, "n9"},
		{"f0(n9)", 0, "n5(g)", 0, "n5(n9)"},
		{"f0(n9)", 0, "g n5(g n6(g h0)) g", 1, "n9 n5(n9 n6(n9 h0)) n9"},
		{"n0(f0(n8 n9))", 0, "n5(g)", 0, "n0(n5(n8 n9))"},
		{"f0()", 0, "n5(g n6(g)) g", 0, "n5(n6)"},
		// No gap, or nothing.
		{"f0(n9)", 0, "n5(h0)", 1, "n5(h0)"},
		{"n0(f1(h0))", 1, "", 0, "n0"},
		// A gap, whatever part it stands in, and with it what stands in it.
		{"f0(n9)", 0, "f0(g n5(g)) f1(n6)", 2, "f0(n9 n5(n9)) f1(n6)"},
		{"f0(n9)", 0, "h0(g n5(g)) g3(g n7 h1) x2(g)", 2, "h0(n9 n5(n9)) n9 x2(n9)"},
		// What came of L: its kids move as those of the template it stands in.
		{"f1(h0 h2 n9(h3))", 1, "n5(g h0 h1)", 2, "n5(h0 h3 n9(h4) h1 h2)"},
		{"f1(h0 h2 f3(n9))", 1, "g", 0, "h0 h1 f2(n9)"},
		{"f2(f1 f0) f3(f2)", 2, "f0(g) n5(g)", 1, "f2(f1 f0) n5(f1 f0) f3(f2 n5)"},
		// With k in it again, by either part.
		{"f0(h0)", 0, "n5(g)", 0, "n5(n5(g))"},
		{"f0(h0 f0(n9))", 0, "n5(g h0)", 1, "n5(n5(g h0) n5(n9 h0) h0)"},
		{"f0(f0(f0(n9)))", 0, "n1(g h0)", 1, "n1(n1(n1(n9 h0) h0) h0)"},
		{"f1(n0(f1(h2)) h1)", 1, "g h1 g", 2, "n0(h3 h2 h3) g h2 g h2 n0(h3 h2 h3) g h2 g"},
		{"n0(f1(n2(h1 f0(h1))) h3)", 1, "n5(g)", 0, "n0(n5(n2(n5(g) f0(n5(g)))) h2)"},
		// The gaps that L makes stay, and those beside it.
		{"f0(g n9)", 0, "n5(g) n6", 0, "n5(g n9) n6"},
		{"f0(n9(g)) g", 0, "g g", 0, "n9(g) n9(g) g"},
		{"g f0(f1(g)) n0(g)", 1, "n5(g g)", 0, "g f0(n5(g g)) n0(g)"},
		{"f0(n9 g) f1(n9 g)", 0, "f0(g) h1(n2)", 2, "f0(n9 g) h1(n2) f2(n9 g)"},
	} {
		wantPlug(t, c.out, c.k, c.in, c.n, c.want)
	}
}

// Whatever part they stand in.
func TestPlugLooksIntoEachPart(t *testing.T) {
	wantPlug(t, "n0(h0 h1 h2) h3(h0 h1 h2) g0(h0 h1 h2) f4(h0 h1 h2) x5(h0 h1 h2) y6(h0 h1 h2)", 1, "n5(h0 h1)", 2,
		"n0(h0 n5(h1 h2) h3) h4(h0 n5(h1 h2) h3) g0(h0 n5(h1 h2) h3) f5(h0 n5(h1 h2) h3) x5(h0 n5(h1 h2) h3) y6(h0 n5(h1 h2) h3)")
	wantPlug(t, "h2(h3(g(x1(h1 f1(n9)))))", 1, "n5(g)", 0, "h1(h2(g(x1(n5(g) n5(n9)))))")
	// Of in, too; and what stands in the hole that goes is not in it.
	wantPlug(t, "h2(n9 h0)", 2, "h1(h0) g1(h0 f1) f0(h1) x3(h0(y4(h2))) n8(h2)", 3, "h3(h2) g1(h2 f3) f2(h3) x3(h2(y4(h4))) n8(h4)")
	wantPlug(t, "h0(h0(h0))", 0, "n5(h0)", 1, "n5(h0)")
	// The number of no other part is a kid's.
	wantPlug(t, "n0 n1 n2 g0 g1 g2 x0 x1 x2 y0 y1 y2", 1, "n5", 4, "n0 n1 n2 g0 g1 g2 x0 x1 x2 y0 y1 y2")
	wantPlug(t, "h3", 3, "n0 n1 g0 g2 x0 x1 y0 y7 h0", 1, "n0 n1 g0 g2 x0 x1 y0 y7 h3")
}

func TestPlugWithNumbersBelowZero(t *testing.T) {
	wantPlug(t, "h-1 f-2(h0 h1) h1", 0, "n5", 3, "h-1 f-2(n5 h3) h3")
	wantPlug(t, "h2", 2, "h-1 f-3(h-2 h0) h0 g-4", 1, "h-1 f-3(h-2 h2) h2 g-4")
	// k below 0: it is a number like others.
	wantPlug(t, "h-1 h0 h-2 f-1(h0)", -1, "h0 h1 g h-1", 2, "h-1 h0 g h-1 h1 h-2 h-1 h0 h1 h-1")
	wantPlug(t, "h-3 h-2 h-4 h0", -3, "h0 h2 h3 h5 h-1", 1, "h-3 h-1 h0 h2 h-1 h-2 h-4 h0")
	// n below 0.
	wantPlug(t, "h0 h1 h5 f7", 1, "n9", -2, "h0 n9 h2 f4")
	wantPlug(t, "h0 h1 h2", 0, "n9", -4, "n9 h-4 h-3")
	for _, c := range []struct{ have, k, n, want int }{
		{5, 0, math.MinInt + 3, math.MinInt + 7},
		{5, 0, math.MinInt, math.MinInt + 4},
		{0, math.MinInt, 5, 4},
		{-1, math.MinInt, math.MaxInt, math.MaxInt - 2},
		{math.MaxInt, 0, 0, math.MaxInt - 1},
		{math.MaxInt, 0, 1, math.MaxInt},
		{math.MaxInt, 0, math.MinInt, -2},
		{math.MinInt, math.MinInt + 1, 7, math.MinInt},
		{1, 0, math.MaxInt, math.MaxInt},
	} {
		for _, op := range []int{api.FHole, api.FFill} {
			got := Plug(row(part(op, c.have)), c.k, row(part(api.FNode, 3)), c.n)
			if len(got) != 1 || got[0].Op != op || got[0].N != c.want {
				t.Errorf("Plug of the kid %d, %d, %d: %v, want %d", c.have, c.k, c.n, got, c.want)
			}
			got = Plug(row(part(api.FHole, c.k)), c.k, row(part(op, 0)), c.n)
			if len(got) != 1 || got[0].Op != op || got[0].N != c.k {
				t.Errorf("Plug in the place of %d: %v", c.k, got)
			}
		}
	}
	got := Plug(row(part(api.FHole, math.MaxInt)), math.MaxInt, row(part(api.FFill, math.MinInt), part(api.FHole, -1), part(api.FHole, 0)), 1)
	if fmt.Sprint(got) != fmt.Sprint(row(part(api.FFill, math.MinInt), part(api.FHole, -1), part(api.FHole, math.MaxInt))) {
		t.Errorf("Plug at a far number: %v", got)
	}
}

// What Plug is for: a tree of a rule whose k-th tree is of another rule makes the same as one of the plugged rule, where no gap but those of the template in is filled by it.
func TestPluggedRulesMakeTheSame(t *testing.T) {
	ins := []string{"h0 h1", "n2(h0 h1)", "n3(h1 g h0)", "n2(h0 n1(h1))", "g n2(h1 h0)", "f1(g) h0", "n1(g) f0(f1)", "n2(g h0) n1(h1)", "f0(n1(h1) g)", "h0 n1(n1(g)) h1"}
	outs := []string{"h0 h1 h2", "n3(h0 h1 h2)", "f1(h0 h2)", "n2(f0(h2) n1(f1(g)))", "n4(h2 n0 h1 h0)", "f1(n2(h0 h2))", "f2(h1 g) f0", "f0(h2 f1(n2(n0 n1(g))))", "n2(n1(h0) n1(h2)) n1(f1(g n0))"}
	kids := []string{"n0", "n1(n0)", "n0 n1(n0)", "n1(n1(n0))"}
	for _, out := range outs {
		for _, in := range ins {
			for k := range 3 {
				for i := range kids {
					holdPlugged(t, parts(out), k, parts(in), kids[i], kids[(i+1)%4], kids[(i+2)%4], kids[(i+3)%4])
				}
			}
		}
	}
}

// holdPlugged compares what the rows of four kids make, two of them by way of the template in.
func holdPlugged(t *testing.T, out []api.Frag, k int, in []api.Frag, kids ...string) {
	t.Helper()
	text := func(l []api.Frag) string {
		s, _ := rowText(l, nil)
		return s
	}
	var rows []string
	for _, kid := range kids {
		rows = append(rows, text(parts(kid)))
	}
	inner, _ := rowText(in, rows[k:k+2])
	two, _ := rowText(out, slices.Concat(rows[:k], []string{inner}, rows[k+2:]))
	one, _ := rowText(Plug(out, k, in, 2), rows)
	if one != two {
		t.Errorf("Plug(%s, %d, %s, 2) makes %s, the two make %s", written(out), k, written(in), one, two)
	}
}

// item: a part in a list of all parts, each ahead of those in it; depth: how many it stands in.
type item struct {
	depth int
	p     api.Frag
}

func items(l []api.Frag) (out []item) {
	var add func(l []api.Frag, depth int)
	add = func(l []api.Frag, depth int) {
		for _, p := range l {
			out = append(out, item{depth, part(p.Op, p.N)})
			add(p.L, depth+1)
		}
	}
	add(l, 0)
	return out
}

// end answers where the parts in that at i end.
func end(list []item, i int) int {
	for j := i + 1; j < len(list); j++ {
		if list[j].depth <= list[i].depth {
			return j
		}
	}
	return len(list)
}

// put lays what stands in list from i to ahead of j anew, so many deeper.
func put(list []item, i, j int, what []item, deeper int) []item {
	var moved []item
	for _, x := range what {
		moved = append(moved, item{x.depth + deeper, x.p})
	}
	return slices.Concat(list[:i], moved, list[j:])
}

// plugItems does what Plug does, in another way: from the right to the left through the list of all parts.
func plugItems(out []api.Frag, k int, in []api.Frag, n int) []item {
	list := items(out)
	for i := len(list) - 1; i >= 0; i-- {
		p := &list[i].p
		if p.Op != api.FHole && p.Op != api.FFill || p.N < k {
			continue
		}
		if p.N > k {
			p.N += n - 1
			continue
		}
		moved := items(in)
		for j := len(moved) - 1; j >= 0; j-- {
			q := &moved[j].p
			switch {
			case (q.Op == api.FHole || q.Op == api.FFill) && q.N >= 0:
				q.N += k
			case q.Op == api.FGap && p.Op == api.FFill:
				moved = put(moved, j, end(moved, j), list[i+1:end(list, i)], moved[j].depth-list[i].depth-1)
			}
		}
		list = put(list, i, end(list, i), moved, list[i].depth)
	}
	return list
}

func sameItems(a, b []item) bool {
	return slices.EqualFunc(a, b, func(x, y item) bool {
		return x.depth == y.depth && x.p.Op == y.p.Op && x.p.N == y.p.N
	})
}

func holdPlug(t *testing.T, out []api.Frag, k int, in []api.Frag, n int) {
	t.Helper()
	got := Plug(out, k, in, n)
	if !sameItems(items(got), plugItems(out, k, in, n)) {
		t.Errorf("Plug(%s, %d, %s, %d): %s", brief(written(out)), k, brief(written(in)), n, brief(written(got)))
	}
}

// templates answers all templates of just n parts, whose numbers are those in ns.
func templates(n int, ns ...int) (out [][]api.Frag) {
	if n == 0 {
		return [][]api.Frag{nil}
	}
	for inside := range n {
		for _, l := range templates(inside, ns...) {
			for _, rest := range templates(n-1-inside, ns...) {
				for _, op := range []int{api.FNode, api.FHole, api.FFill} {
					for _, i := range ns {
						out = append(out, append(row(part(op, i, l...)), rest...))
					}
				}
				out = append(out, append(row(part(api.FGap, 0, l...)), rest...))
			}
		}
	}
	return out
}

func TestPlugOfAllSmallTemplates(t *testing.T) {
	var outs, ins [][]api.Frag
	for n := range 3 {
		outs = append(outs, templates(n, -1, 0, 1, 2)...)
		ins = append(ins, templates(n, -1, 0, 1)...)
	}
	for _, out := range outs {
		for _, in := range ins {
			for k := -1; k <= 1; k++ {
				holdPlug(t, out, k, in, 2)
			}
		}
		if t.Failed() {
			return
		}
	}
	for _, out := range templates(4, 0) {
		holdPlug(t, out, 0, parts("g h0(g) n1(g(h1) f1)"), 2)
	}
}

// P9.4: Node.

func TestNode(t *testing.T) {
	for rule, want := range []string{"n0", "n1(h0)", "n2(h0 h1)", "n3(h0 h1 h2)", "n4(h0 h1 h2 h3)"} {
		if got := written(Node(rule, rule)); got != want {
			t.Errorf("Node: %s, want %s", got, want)
		}
	}
	for _, rule := range []int{math.MinInt, -1, 0, 159, 160, math.MaxInt} {
		for _, kids := range []int{math.MinInt, -5, -1, 0, 1, 10, 11, 3000} {
			got := Node(rule, kids)
			if len(got) != 1 || got[0].Op != api.FNode || got[0].N != rule || len(got[0].L) != max(kids, 0) {
				t.Fatalf("Node(%d, %d): %v", rule, kids, brief(got))
			}
			for i, p := range got[0].L {
				if p.Op != api.FHole || p.N != i || len(p.L) > 0 {
					t.Fatalf("Node(%d, %d): %v", rule, kids, brief(got))
				}
			}
		}
	}
	g := grammar(2, "0 > 0 #0 1 1; 1 >; 1 > #0; 0 > 1")
	s := api.Step{G: g, Frags: [][]api.Frag{Node(0, 3), Node(1, 0), Node(2, 0), Node(3, 1)}}
	wantCheck(t, g, s, 0, 0)
	for _, x := range shapes(g, 0, 8) {
		wantBack(t, g, s, x, told(x))
	}
}

// Own.

func TestOwn(t *testing.T) {
	for n := range 4 {
		for _, l := range templates(n, -1, 3) {
			if written(Own(l)) != written(l) {
				t.Fatalf("Own(%s): %s", written(l), written(Own(l)))
			}
		}
	}
	for _, l := range []string{"", "x", "y-9(x(h0)) n3(n4(n5))", "h0(g(f1(x)) h7)", "g5 g-5(g)"} {
		if written(Own(parts(l))) != written(parts(l)) {
			t.Errorf("Own(%s): %s", l, written(Own(parts(l))))
		}
	}
	far := row(part(math.MinInt, math.MaxInt, part(math.MaxInt, math.MinInt)))
	if fmt.Sprint(Own(far)) != fmt.Sprint(far) {
		t.Errorf("Own(%v): %v", far, Own(far))
	}
}

// What holds everywhere: what is answered is new, what is handed in stays.

// places answers where each number of the lists of a template lies, behind the lengths, too.
func places(l []api.Frag) (out []*int) {
	for _, p := range l {
		out = append(out, places(p.L)...)
	}
	all := l[:cap(l)]
	for i := range all {
		out = append(out, &all[i].N)
	}
	return out
}

func treePlaces(row []api.Tree) (out []*int) {
	for _, t := range row {
		out = append(out, treePlaces(t.Kids)...)
	}
	all := row[:cap(row)]
	for i := range all {
		out = append(out, &all[i].Rule)
	}
	return out
}

// wantApart writes another number to each place, and asks whether they all stay.
func wantApart(t *testing.T, all []*int) {
	t.Helper()
	for i, p := range all {
		*p = 1000 + i
	}
	for i, p := range all {
		if *p != 1000+i {
			t.Fatalf("two lists share memory: %d, want %d", *p, 1000+i)
		}
	}
}

// roomy lays the lists of a template anew, with something behind the length of each.
func roomy(l []api.Frag) []api.Frag {
	out := make([]api.Frag, 0, len(l)+2)
	for _, p := range l {
		out = append(out, part(p.Op, p.N, roomy(p.L)...))
	}
	behind := out[len(out):cap(out)]
	for i := range behind {
		behind[i] = part(api.FHole, i, part(api.FGap, 5))
	}
	return out
}

func roomyTrees(row []api.Tree) []api.Tree {
	out := make([]api.Tree, 0, len(row)+2)
	for _, t := range row {
		out = append(out, node(t.Rule, roomyTrees(t.Kids)...))
	}
	behind := out[len(out):cap(out)]
	for i := range behind {
		behind[i] = node(7, node(i))
	}
	return out
}

func roomyGrammar(g api.Grammar) api.Grammar {
	rules := make([]api.Rule, 0, len(g.Rules)+2)
	for _, r := range g.Rules {
		right := append(make([]int, 0, len(r.Right)+2), r.Right...)
		right[:cap(right)][len(right)] = 99
		rules = append(rules, rule(r.Left, right...))
	}
	rules[:cap(rules)][len(rules)] = rule(-5, -99)
	g.Rules = rules
	return g
}

func roomyStep(s api.Step) api.Step {
	frags := make([][]api.Frag, 0, len(s.Frags)+2)
	for _, l := range s.Frags {
		frags = append(frags, roomy(l))
	}
	frags[:cap(frags)][len(frags)] = parts("x")
	return api.Step{G: roomyGrammar(s.G), Frags: frags, Empty: roomyTrees(s.Empty)}
}

// memory tells all that lies in what is handed in, behind the lengths, too.
func memory(x any) string {
	switch x := x.(type) {
	case []api.Frag:
		s := fmt.Sprint(len(x), cap(x))
		for _, p := range x[:cap(x)] {
			s += fmt.Sprint(p.Op, p.N, memory(p.L))
		}
		return s
	case []api.Tree:
		s := fmt.Sprint(len(x), cap(x))
		for _, t := range x[:cap(x)] {
			s += fmt.Sprint(t.Rule, memory(t.Kids))
		}
		return s
	case api.Grammar:
		s := fmt.Sprint(x.Vars, x.Terms, x.Start, len(x.Rules), cap(x.Rules))
		for _, r := range x.Rules[:cap(x.Rules)] {
			s += fmt.Sprint(r.Left, len(r.Right), cap(r.Right), r.Right[:cap(r.Right)])
		}
		return s
	case api.Step:
		s := memory(x.G) + memory(x.Empty) + fmt.Sprint(len(x.Frags), cap(x.Frags))
		for _, l := range x.Frags[:cap(x.Frags)] {
			s += memory(l)
		}
		return s
	}
	panic("of no kind")
}

func TestNothingIsChangedOfWhatCheckAndBackAreGiven(t *testing.T) {
	for _, p := range passes() {
		old, s := roomyGrammar(p.old), roomyStep(p.s)
		before := memory(old) + memory(s)
		wantCheck(t, old, s, 0, 0)
		for _, x := range shapes(p.s.G, 0, min(p.so, 8)) {
			plain, _ := Back(p.old, p.s, x)
			in := roomyTrees([]api.Tree{x})
			was := memory(in)
			got, f := Back(old, s, in[0])
			if f.Code != 0 || told(got) != told(plain) {
				t.Errorf("%s: Back(%s): %s, fault %v, want %s", p.why, told(x), told(got), f, told(plain))
			}
			// The answer may be written to, and what was handed in, too.
			wantApart(t, treePlaces([]api.Tree{got}))
			if memory(in) != was || memory(old)+memory(s) != before {
				t.Fatalf("%s: Back changed what it was given", p.why)
			}
			again, _ := Back(old, s, in[0])
			wantApart(t, treePlaces(in))
			if told(again) != told(plain) {
				t.Errorf("%s: with what Back was given, its answer became %s", p.why, told(again))
			}
		}
		s.Frags[len(s.Frags)-1] = roomy(parts("h0 h0 x"))
		before = memory(s)
		wantCheck(t, old, s, api.ErrFrag, len(s.Frags)-1)
		wantNoBack(t, old, s, node(0), api.ErrFrag, len(s.Frags)-1)
		if memory(s) != before {
			t.Fatalf("%s: Check changed what it was given", p.why)
		}
	}
}

// What fills several gaps stands in each of them in memory of its own.
func TestBackSharesNothing(t *testing.T) {
	const src = "2 f0(h1); 0 n3(g n2(g g) g); 0 n2(n1(n0) n1(n0)); 1 f0(n1(n1(g)))"
	for _, x := range []string{"0(1 2)", "0(1 0(1 2))", "0(3(1) 2)", "0(3(3(1)) 0(1 2))"} {
		s := making(src)
		before := memory(s)
		got, f := Back(wide(), s, read(x))
		if f.Code != 0 {
			t.Fatalf("Back(%s): fault %v", x, f)
		}
		wantApart(t, treePlaces([]api.Tree{got}))
		if memory(s) != before {
			t.Errorf("with the answer of Back(%s), the step was changed", x)
		}
	}
}

// Lists of what is handed in may share memory; those that are answered may not.
func TestPlugAndOwnShareNothing(t *testing.T) {
	l := parts("n1(g h0) f1(n2(h1 g)) h0(n4) g(h0)")
	shared := row(part(api.FFill, 0, l...), part(api.FNode, 0, l[1:3]...), part(api.FFill, 1, l...), part(api.FHole, 0, l[:1]...))
	outs := [][]api.Frag{l, shared, parts("h0 f0(n1 h0 f0(h0 n1(n2)) f1(g)) h0 h1(h0)")}
	ins := [][]api.Frag{l, shared, shared[1:2], parts("n1(g n2(g)) g n3(n4(h0))")}
	for _, out := range outs {
		for _, in := range ins {
			for k := range 3 {
				want := written(Plug(out, k, in, 3))
				before := written(out) + written(in)
				wantApart(t, places(Plug(out, k, in, 3)))
				if written(out)+written(in) != before {
					t.Fatal("with the answer of Plug, what it was given was changed")
				}
				a, b := roomy(out), roomy(in)
				before = memory(a) + memory(b)
				got := Plug(a, k, b, 3)
				if written(got) != want {
					t.Errorf("Plug: %s, with something behind each list %s", want, written(got))
				}
				if memory(a)+memory(b) != before {
					t.Fatal("Plug changed what it was given")
				}
				wantApart(t, append(places(a), places(b)...))
				if written(got) != want {
					t.Errorf("with what Plug was given, its answer became %s", written(got))
				}
			}
		}
	}
	for _, l := range slices.Concat(outs, ins) {
		want := written(l)
		wantApart(t, places(Own(l)))
		if written(l) != want {
			t.Errorf("with the answer of Own, what it was given became %s", written(l))
		}
		x := roomy(l)
		before := memory(x)
		got := Own(x)
		if memory(x) != before {
			t.Fatal("Own changed what it was given")
		}
		wantApart(t, places(x))
		if written(got) != want {
			t.Errorf("with what Own was given, its answer became %s", written(got))
		}
	}
	wantApart(t, places(Node(1, 9)))
	wantApart(t, append(places(Node(1, 2)), places(Node(1, 2))...))
}
