package frag

import (
	"math/rand"
	"slices"
	"testing"

	"graftwork/api"
	"graftwork/gram"
	"graftwork/tree"
)

// P1: templates and trees that are far greater than what they lie in, or without end.

// endless: a part of each kind that holds itself.
func endless(op int) []api.Frag {
	l := row(part(op, 0, part(api.FGap, 0)))
	l[0].L = l
	return l
}

func TestCheckOfVastTemplates(t *testing.T) {
	doubled := row(part(api.FGap, 0))
	for range 64 {
		doubled = row(part(api.FNode, 0, doubled...), part(api.FFill, 0, doubled...))
	}
	empties := []api.Frag(nil)
	for range 64 {
		empties = row(part(api.FNode, 0, empties...), part(api.FNode, 0, empties...))
	}
	broad := make([]api.Frag, 1<<20)
	for _, l := range [][]api.Frag{endless(api.FNode), endless(api.FFill), endless(0), endless(9), doubled, empties, broad, nested(1 << 16)} {
		wantTemplate(t, 0, l, api.ErrMany)
		wantTemplate(t, 1, append(parts("h0 g"), l...), api.ErrMany)
		wantTemplate(t, 1, row(part(api.FFill, 0, l...)), api.ErrMany)
		// Where it is not looked at, it does no harm.
		wantTemplate(t, 0, row(part(api.FGap, 0, l...)), 0)
		wantTemplate(t, 1, row(part(api.FNode, 1, part(api.FHole, 0, l...))), 0)
		s := making("1 h0; 0 n0")
		s.Frags[0][0].L = l
		wantBack(t, wide(), s, node(0, node(1)), "0")
	}
	wantTemplate(t, 1, endless(api.FHole), 0)
	wantTemplate(t, 0, endless(api.FGap), 0)
}

func TestCheckOfVastTrees(t *testing.T) {
	doubled := node(0)
	for range 64 {
		doubled = node(2, doubled, doubled)
	}
	round := node(1, node(0))
	round.Kids[0] = round
	for _, x := range []api.Tree{doubled, round, line(1<<16, 1, 0), node(0, make([]api.Tree, 1<<20)...)} {
		wantWrong(t, wide(), withEmpty(making("0 n0"), x), api.ErrTree, -1)
		wantNoBack(t, wide(), making("0 n0; 1 n1(h0); 2 h0 h1"), x, api.ErrMany, -1)
	}
}

func TestPlugAndOwnOfGreatTemplates(t *testing.T) {
	deep := nested(1<<16-1, part(api.FHole, 0))
	if got := Own(deep); !sameItems(items(got), items(deep)) {
		t.Error("Own of a deep template is another one")
	}
	got := Plug(deep, 0, nested(1<<10, part(api.FHole, 3)), 4)
	if list := items(got); len(list) != 1<<16+1<<10 || list[len(list)-1].depth != 1<<16+1<<10-1 || list[len(list)-1].p.N != 3 {
		t.Error("Plug of a deep template is another one")
	}
	fills := row(part(api.FGap, 0))
	for range 1 << 14 {
		fills = row(part(api.FFill, 0, fills...))
	}
	if got := Plug(fills, 0, parts("n5(g)"), 0); len(items(got)) != 1<<14+1 {
		t.Error("Plug of many fills, one in the other, is another one")
	}
	broad := slices.Repeat(parts("n1(g h1)"), 1<<16)
	if got := Plug(broad, 1, broad[:1], 2); len(items(got)) != 4<<16+1<<16 || len(Own(broad)) != 1<<16 {
		t.Error("of a broad template it is another one")
	}
}

// What is not in the answer is not gone through, whatever it is.
func TestPlugDropsWhateverItIs(t *testing.T) {
	want := func(got []api.Frag, want string) {
		t.Helper()
		if written(got) != want {
			t.Errorf("Plug: %s, want %s", brief(written(got)), want)
		}
	}
	want(Plug(endless(api.FHole), 0, parts("n5(h0)"), 1), "n5(h0)")
	want(Plug(endless(api.FFill), 0, parts("n5(h0)"), 1), "n5(h0)")
	want(Plug(endless(api.FFill), 0, nil, 0), "")
	want(Plug(parts("f0(n9)"), 0, endless(api.FGap), 1), "n9")
	want(Plug(parts("n1(h1)"), 0, endless(api.FNode), 1), "n1(h1)")
	// Gaps that are filled with nothing, or with what is filled with nothing, and so on.
	var fills []api.Frag
	for range 100 {
		fills = row(part(api.FFill, 0, fills...))
	}
	want(Plug(fills, 0, parts("g g g"), 0), "")
}

// Second ways to Check and Back.

// judge answers what Check should, through the list of all parts.
func judge(old api.Grammar, s api.Step) api.Fault {
	for _, g := range []api.Grammar{old, s.G} {
		if f := gram.Check(g); f.Code != 0 {
			return f
		}
	}
	if len(s.Empty) > 200 {
		return api.Fault{Code: api.ErrMany, At: -1}
	}
	for _, x := range s.Empty {
		if tree.Check(old, x, old.Start).Code != 0 || terminals(old, x) > 0 {
			return api.Fault{Code: api.ErrTree, At: -1}
		}
	}
	if len(s.Frags) != len(s.G.Rules) {
		return api.Fault{Code: api.ErrFrag, At: -1}
	}
	for i, l := range s.Frags {
		if code := judgeParts(counted(l), len(old.Rules), gram.Kids(s.G.Rules[i])); code != 0 {
			return api.Fault{Code: code, At: i}
		}
	}
	return api.Fault{}
}

// terminals counts those of a tree's word.
func terminals(g api.Grammar, t api.Tree) int {
	n := len(g.Rules[t.Rule].Right) - len(t.Kids)
	for _, kid := range t.Kids {
		n += terminals(g, kid)
	}
	return n
}

// counted answers all parts but those in FHole and FGap.
func counted(l []api.Frag) (out []api.Frag) {
	list := items(l)
	for i := 0; i < len(list); {
		out = append(out, list[i].p)
		if op := list[i].p.Op; op == api.FHole || op == api.FGap {
			i = end(list, i)
		} else {
			i++
		}
	}
	return out
}

func judgeParts(list []api.Frag, rules int, kids []int) int {
	if len(list) > 60 {
		return api.ErrMany
	}
	var used []int
	for _, p := range list {
		switch {
		case p.Op == api.FHole, p.Op == api.FFill:
			used = append(used, p.N)
		case p.Op == api.FNode && (p.N < 0 || p.N > rules-1), p.Op < 1, p.Op > 4:
			return api.ErrFrag
		}
	}
	slices.Sort(used)
	for i := range max(len(used), len(kids)) {
		if i >= len(used) || i >= len(kids) || used[i] != i {
			return api.ErrFrag
		}
	}
	return 0
}

// holdBack holds Check and Back against the second ways, and answers the fault of Back.
func holdBack(t *testing.T, old api.Grammar, s api.Step, x api.Tree) api.Fault {
	t.Helper()
	f := judge(old, s)
	wantCheck(t, old, s, f.Code, f.At)
	var want api.Tree
	if f.Code == 0 {
		want, _, f = backText(old, s, x)
	}
	if f.Code == 0 {
		wantBack(t, old, s, x, told(want))
	} else {
		wantNoBack(t, old, s, x, f.Code, f.At)
	}
	if t.Failed() {
		for i, l := range s.Frags {
			t.Logf("%v: %s", s.G.Rules[i], brief(written(l)))
		}
		t.Fatalf("of %v: %s", old, brief(told(x)))
	}
	return f
}

// All templates of at most three parts, for a rule with no kid, with one and with two, that make rows of each kind.
func TestAllSmallTemplates(t *testing.T) {
	s := making("0; 0 g; 0 n1(g); 0 n0 g; 0 n0; 0")
	seen := map[int]int{}
	for n := range 4 {
		for _, l := range templates(n, -1, 0, 1, 2, 3) {
			for kids := range 3 {
				s.G.Rules[0].Right = make([]int, kids)
				s.Frags[0] = l
				x := node(0, read("1"), read("3"))
				x.Kids = x.Kids[:kids]
				if f := judge(wide(), s); f.Code != 0 {
					seen[holdBack(t, wide(), s, x).Code]++
					continue
				}
				for first := 1; first <= 5; first++ {
					for second := 1; second <= 5; second++ {
						x := node(0, node(first), node(second))
						x.Kids = x.Kids[:kids]
						seen[holdBack(t, wide(), s, x).Code]++
					}
				}
			}
		}
	}
	for _, code := range []int{0, api.ErrFrag, api.ErrOther} {
		if seen[code] < 50 {
			t.Errorf("code %d was told %d times alone", code, seen[code])
		}
	}
}

// inventor makes up steps, and trees of them: of a thousand choices so many are wild. Each row of a nonterminal has so many roots, and where it is gappy, there may be gaps in it.
type inventor struct {
	*rand.Rand
	wild  int
	old   api.Grammar
	s     api.Step
	roots []int
	gappy []bool
}

func (m *inventor) odd() bool  { return m.Intn(1000) < m.wild }
func (m *inventor) coin() bool { return m.Intn(2) == 0 }

// grammars makes up an old grammar that has two rules with each number of kids from 0 to 4, the second ones with terminals, and a new one.
func (m *inventor) grammars() {
	m.old = api.Grammar{Vars: 1 + m.wild/20%2, Terms: 2}
	for n := range 10 {
		r := make([]int, n%5, 9)
		if n > 4 {
			r = slices.Insert(r, m.Intn(len(r)+1), -1-m.Intn(2))
		}
		m.old.Rules = append(m.old.Rules, rule(0, r...))
	}
	m.s = api.Step{G: api.Grammar{Vars: 2 + m.Intn(4), Terms: 1}}
	m.roots, m.gappy = []int{1}, []bool{false}
	for range m.s.G.Vars - 1 {
		m.roots = append(m.roots, []int{0, 1, 1, 1, 2, 2}[m.Intn(6)])
		m.gappy = append(m.gappy, m.coin())
	}
	for v := range m.s.G.Vars {
		m.rule(rule(v))
		for range m.Intn(6) {
			r := rule(v)
			for range m.Intn(4) {
				if m.roots[v] > 0 {
					r.Right = append(r.Right, m.Intn(m.s.G.Vars))
				}
			}
			m.rule(r)
		}
	}
}

// rule adds a rule, and a template of it.
func (m *inventor) rule(r api.Rule) {
	kids := m.Perm(len(r.Right))
	m.s.Frags = append(m.s.Frags, m.row(m.roots[r.Left], kids, r))
	for len(r.Right) < 10 && m.Intn(3) == 0 {
		r.Right = slices.Insert(slices.Clone(r.Right), m.Intn(len(r.Right)+1), -1)
	}
	m.s.G.Rules = append(m.s.G.Rules, r)
}

// piece: parts that make so many roots.
type piece struct {
	l     []api.Frag
	roots int
}

// row makes up parts that make so many roots of these kids of a rule.
func (m *inventor) row(roots int, kids []int, r api.Rule) []api.Frag {
	var list []piece
	have := 0
	for len(kids) > 0 {
		kid := kids[0]
		kids = kids[1:]
		v := r.Right[kid]
		p := part(api.FHole, kid)
		if m.gappy[v] && (!m.gappy[r.Left] || m.coin()) || m.Intn(5) == 0 {
			n := m.Intn(len(kids) + 1)
			p = part(api.FFill, kid, m.row(1, kids[:n], r)...)
			kids = kids[n:]
		}
		list = append(list, piece{row(p), m.roots[v]})
		have += m.roots[v]
	}
	for have > roots || m.Intn(4) == 0 && roots > 0 {
		list, have = m.wrap(list)
	}
	for ; have < roots; have++ {
		p := part(api.FNode, m.Intn(2)*5)
		if m.gappy[r.Left] && m.coin() {
			p = part(api.FGap, m.Intn(9))
		}
		list = slices.Insert(list, m.Intn(len(list)+1), piece{row(p), 1})
	}
	var out []api.Frag
	for _, x := range list {
		out = append(out, x.l...)
	}
	return out
}

// wrap lays some of the pieces, as many as a rule has kids, into a part of that rule.
func (m *inventor) wrap(list []piece) ([]piece, int) {
	i := m.Intn(len(list) + 1)
	j := min(len(list), i+m.Intn(4))
	in := piece{nil, 1}
	kids := 0
	for _, x := range list[i:j] {
		in.l = append(in.l, x.l...)
		kids += x.roots
	}
	if kids <= 4 {
		in.l = row(part(api.FNode, kids+5*m.Intn(2), in.l...))
		list = slices.Concat(list[:i], []piece{in}, list[j:])
	}
	have := 0
	for _, x := range list {
		have += x.roots
	}
	return list, have
}

// tree makes up a tree of v, of some *room trees.
func (m *inventor) tree(g api.Grammar, v int, room *int) api.Tree {
	*room--
	by := gram.By(g, v)
	if *room < 0 {
		by = slices.DeleteFunc(by, func(i int) bool { return len(gram.Kids(g.Rules[i])) > 0 })
	}
	if m.odd() || len(by) == 0 {
		return node(m.Intn(len(g.Rules)+2) - 1)
	}
	t := node(by[m.Intn(len(by))])
	for _, s := range gram.Kids(g.Rules[t.Rule]) {
		t.Kids = append(t.Kids, m.tree(g, s, room))
	}
	return t
}

// empties makes up trees of the empty word: none of their rules has terminals, but for wild ones.
func (m *inventor) empties() {
	g := m.old
	if !m.odd() {
		g.Rules = g.Rules[:5]
	}
	for range m.Intn(4) {
		room := m.Intn(30)
		m.s.Empty = append(m.s.Empty, m.tree(g, 0, &room))
	}
}

// spoil changes something, maybe.
func (m *inventor) spoil() {
	all := []*api.Frag{}
	var add func(l []api.Frag)
	add = func(l []api.Frag) {
		for i := range l {
			all = append(all, &l[i])
			add(l[i].L)
		}
	}
	for _, l := range m.s.Frags {
		add(l)
	}
	for _, p := range all {
		if m.odd() {
			p.N = m.Intn(5) - 1
		}
		if m.odd() {
			p.Op = m.Intn(6)
		}
		if m.odd() {
			p.L = p.L[:m.Intn(len(p.L)+1)]
		}
		if m.odd() {
			p.L = append(p.L, part(api.FGap, 1), part(api.FNode, 0))
		}
		if m.odd() {
			p.L = append(p.L, slices.Repeat(parts("n0 g"), 29)...)
		}
	}
	if m.odd() {
		m.s.Frags = m.s.Frags[1:]
	}
	if m.odd() {
		m.s.G.Start = m.Intn(m.s.G.Vars + 1)
	}
	if m.odd() {
		m.old.Rules[m.Intn(10)].Left = m.Intn(2)
	}
}

func TestStepsMadeUp(t *testing.T) {
	seen := map[int]int{}
	for _, wild := range []int{0, 1, 4, 20, 60} {
		r := rand.New(rand.NewSource(int64(9 + wild)))
		for range 800 {
			m := &inventor{Rand: r, wild: wild}
			m.grammars()
			m.empties()
			m.spoil()
			for range 4 {
				room := []int{2, 6, 20, 100, 300}[m.Intn(5)]
				x := m.tree(m.s.G, m.s.G.Start, &room)
				f := holdBack(t, m.old, m.s, x)
				seen[f.Code]++
				if wild == 0 && f.Code == api.ErrOther {
					t.Fatalf("of what is not wild nothing is led back: %s", told(x))
				}
			}
			out, in := m.s.Frags[m.Intn(len(m.s.Frags))], m.s.Frags[m.Intn(len(m.s.Frags))]
			holdPlug(t, out, m.Intn(4)-1, in, m.Intn(4)-1)
			if written(Own(out)) != written(out) {
				t.Errorf("Own(%s): %s", written(out), written(Own(out)))
			}
			if t.Failed() {
				return
			}
		}
	}
	for _, code := range []int{0, api.ErrRange, api.ErrMany, api.ErrTree, api.ErrFrag, api.ErrOther} {
		if seen[code] < 20 {
			t.Errorf("code %d was told %d times alone", code, seen[code])
		}
	}
}

// reader makes grammars, steps and trees of bytes, whatever they are.
type reader struct{ data []byte }

func (r *reader) next() int {
	if len(r.data) == 0 {
		return 0
	}
	n := int(int8(r.data[0]))
	r.data = r.data[1:]
	return n
}

func (r *reader) grammar() (g api.Grammar) {
	g.Vars, g.Terms, g.Start = r.next(), r.next(), r.next()
	for range max(r.next(), 0) {
		x := rule(r.next())
		for range max(r.next(), 0) {
			x.Right = append(x.Right, r.next())
		}
		g.Rules = append(g.Rules, x)
	}
	return g
}

func (r *reader) row() (row []api.Tree) {
	for range max(r.next(), 0) {
		if len(r.data) > 0 {
			row = append(row, node(r.next(), r.row()...))
		}
	}
	return row
}

func (r *reader) parts() (l []api.Frag) {
	for range max(r.next(), 0) {
		if len(r.data) > 0 {
			l = append(l, part(r.next(), r.next(), r.parts()...))
		}
	}
	return l
}

func FuzzFrag(f *testing.F) {
	// S > S a, S > b by itself, and what turn makes of it.
	old := []byte{1, 2, 0, 2, 0, 2, 0, 255, 0, 1, 254}
	f.Add(slices.Concat(old, old, []byte{0, 2, 1, 1, 0, 1, 2, 0, 0, 1, 1, 1, 0, 0, 1, 1, 0}))
	f.Add(slices.Concat(old, []byte{2, 2, 0, 4, 0, 1, 254, 0, 2, 254, 1, 1, 1, 255, 1, 2, 255, 1, 0, 4},
		[]byte{1, 1, 1, 0, 1, 4, 0, 1, 1, 1, 0, 1, 1, 0, 1, 3, 0, 0, 1, 4, 0, 1, 1, 0, 1, 3, 0, 0},
		[]byte{1, 1, 1, 3, 1, 2, 0}))
	f.Add([]byte{})
	f.Fuzz(func(t *testing.T, data []byte) {
		r := &reader{data}
		old := r.grammar()
		s := api.Step{G: r.grammar(), Empty: r.row()}
		for range max(r.next(), 0) {
			s.Frags = append(s.Frags, r.parts())
		}
		holdBack(t, old, s, node(r.next(), r.row()...))
		// Of more parts, the answer may be greater than any memory: each FFill in another one takes as many copies as there are gaps.
		if out, in := r.parts(), r.parts(); len(items(out)) < 7 && len(items(in)) < 9 {
			holdPlug(t, out, r.next(), in, r.next())
		}
	})
}
