package defs

import (
	"fmt"
	"math"
	"math/rand"
	"reflect"
	"slices"
	"strconv"
	"strings"
	"testing"

	"graftwork/api"
	"graftwork/render"
	"graftwork/syntax"
	"graftwork/token"
)

func name(s string) api.Expr { return api.Expr{Op: api.XName, Name: s} }
func term(s string) api.Expr { return api.Expr{Op: api.XTerm, Name: s} }

func of(op int, l ...api.Expr) api.Expr { return api.Expr{Op: op, L: l} }
func row(l ...api.Expr) api.Expr        { return of(api.XRow, l...) }
func alt(l ...api.Expr) api.Expr        { return of(api.XAlt, l...) }

func def(name string, e api.Expr) api.Def { return api.Def{Name: name, E: e} }
func text(defs ...api.Def) api.Text       { return api.Text{Defs: defs} }

// nest puts n of a kind around an expression.
func nest(n, op int, e api.Expr) api.Expr {
	for range n {
		e = of(op, e)
	}
	return e
}

func brief(x any) string {
	s := fmt.Sprint(x)
	if len(s) > 200 {
		return s[:200] + ".."
	}
	return s
}

func read(t *testing.T, src string) api.Text {
	t.Helper()
	x, f := syntax.Parse(src)
	if f != (api.Fault{}) {
		t.Fatalf("Parse(%q): fault %v", src, f)
	}
	return x
}

// words splits what is to be answered: blanks stand between the names, none is empty.
func words(s string) []string { return strings.Fields(s) }

func wantNames(t *testing.T, x api.Text, want []string) {
	t.Helper()
	if got := Names(x); !slices.Equal(got, want) {
		t.Errorf("Names(%s): %s, want %s", brief(x), brief(got), brief(want))
	}
}

func wantTerms(t *testing.T, x api.Text, want []string) {
	t.Helper()
	if got := Terms(x); !slices.Equal(got, want) {
		t.Errorf("Terms(%s): %s, want %s", brief(x), brief(got), brief(want))
	}
}

func wantFault(t *testing.T, x api.Text, code, at int) {
	t.Helper()
	want := api.Fault{Code: code, At: at}
	if f := Check(x); f != want {
		t.Errorf("Check(%s): fault %v, want %v", brief(x), f, want)
	}
}

// wantFine: nothing is wrong with the text src; its names and terminals are those.
func wantFine(t *testing.T, src, names, terms string) {
	t.Helper()
	x := read(t, src)
	wantFault(t, x, 0, 0)
	wantNames(t, x, words(names))
	wantTerms(t, x, words(terms))
}

// Ordinary definitions.

func TestTheExample(t *testing.T) {
	wantFine(t, `S = "b" "a" "b";`, "S", "b a")
}

func TestOneDefinition(t *testing.T) {
	wantFine(t, `S = ;`, "S", "")
	wantFine(t, `S = S;`, "S", "")
	wantFine(t, `_9 = "x";`, "_9", "x")
	wantFine(t, `S = S "a" | "b";`, "S", "a b")
	wantFine(t, `S = "c" ("b" | S "a" | "c") ["b" "d"] {"e"} <"a">;`, "S", "c b a d e")
}

func TestManyDefinitions(t *testing.T) {
	wantFine(t, `S = "b" T "a" "b"; T = S;`, "S T", "b a")
	wantFine(t, `B = A; A = C; C = A;`, "B A C", "")
	wantFine(t, `S = "a"; T = "a"; U = "b"; V = "a" "b" "c" "b";`, "S T U V", "a b c")
	wantFine(t, `S = "z" T; T = "y" | "z"; A = "x" S;`, "S T A", "z y x")
	wantFine(t, `Z = ; Y = "a"; X = ; W = "b";`, "Z Y X W", "a b")
}

// Definitions that nothing speaks of are definitions all the same.
func TestDefinitionsAheadAndBehind(t *testing.T) {
	wantFine(t, `S = T; T = U; U = "u";`, "S T U", "u")
	wantFine(t, `S = ; T = S; U = T S;`, "S T U", "")
	wantFine(t, `S = U; T = S T U; U = S;`, "S T U", "")
	wantFine(t, `S = ; T = ;`, "S T", "")
}

func TestSmallAndLargeLettersAreNotTheSame(t *testing.T) {
	wantFine(t, `S = s; s = "a" "A";`, "S s", "a A")
	wantFault(t, read(t, `S = s;`), api.ErrNone, 0)
}

// A terminal is no definition, and a definition is no terminal, whatever they are called.
func TestTerminalsAreNoNames(t *testing.T) {
	wantFine(t, `S = "S" T; T = "T" "S";`, "S T", "S T")
	wantFine(t, `S = "U";`, "S", "U")
	wantFault(t, read(t, `S = "U" U;`), api.ErrNone, 0)
}

// P4.1: render.Check's fault comes ahead of all else.

func TestCheckOfNoDefinition(t *testing.T) {
	wantFault(t, api.Text{}, api.ErrNone, -1)
	wantFault(t, api.Text{Defs: []api.Def{}}, api.ErrNone, -1)
	wantFault(t, api.Text{Defs: []api.Def{def("S", row())}[:0]}, api.ErrNone, -1)
}

func TestCheckOfManyDefinitions(t *testing.T) {
	all := numbered(api.MaxDefs, row())
	wantFault(t, text(all...), 0, 0)
	wantFault(t, text(append(all, def("S", row()))...), api.ErrMany, -1)
	wantFault(t, text(slices.Repeat([]api.Def{def("S", name("T"))}, api.MaxDefs+1)...), api.ErrMany, -1)
}

// numbered: n definitions with names of their own, all of the same expression.
func numbered(n int, e api.Expr) (defs []api.Def) {
	for i := range n {
		defs = append(defs, def("D"+strconv.Itoa(i), e))
	}
	return defs
}

func TestCheckOfWhatMayNotBePrinted(t *testing.T) {
	a := name("S")
	odd := []struct {
		d    api.Def
		code int
	}{
		{def("", a), api.ErrName},
		{def("1", a), api.ErrName},
		{def("long_name_013", a), api.ErrName},
		{def("T", row(slices.Repeat([]api.Expr{a}, api.MaxParts+1)...)), api.ErrMany},
		{def("T", nest(api.MaxOpen+1, api.XOpt, a)), api.ErrDeep},
		{def("T", api.Expr{}), api.ErrForm},
		{def("T", of(-1)), api.ErrForm},
		{def("T", of(8, a)), api.ErrForm},
		{def("T", row(a)), api.ErrForm},
		{def("T", alt(a)), api.ErrForm},
		{def("T", of(api.XOpt)), api.ErrForm},
		{def("T", of(api.XStar, a, a)), api.ErrForm},
		{def("T", api.Expr{Op: api.XPlus, Name: "S", L: []api.Expr{a}}), api.ErrForm},
		{def("T", api.Expr{Op: api.XName, Name: "S", L: []api.Expr{a}}), api.ErrForm},
		{def("T", name("")), api.ErrName},
		{def("T", name("a b")), api.ErrName},
		{def("T", term("")), api.ErrName},
		{def("T", term(`"`)), api.ErrName},
		{def("T", alt(a, row(a, of(api.XOpt, term("a\n"))))), api.ErrName},
	}
	for _, o := range odd {
		wantFault(t, text(o.d), o.code, 0)
		wantFault(t, text(def("S", a), o.d), o.code, 1)
		// It is told ahead of a name that comes twice, one that has no definition, and too many terminals, wherever they are.
		wantFault(t, text(def("S", name("U")), def("S", a), def("V", terms(api.MaxTerms+1)), o.d, def("S", name("U"))), o.code, 3)
	}
}

// terms: a row of n terminals, none twice.
func terms(n int) api.Expr {
	e := row()
	for i := range n {
		e.L = append(e.L, term("t"+strconv.Itoa(i)))
	}
	return e
}

func TestCheckOfLongTexts(t *testing.T) {
	long := row(slices.Repeat([]api.Expr{term("twelve bytes")}, 26)...)
	defs := numbered(api.MaxDefs, long)
	for i := range defs {
		defs[i].Name = "long_name_" + string(rune('a'+i))
	}
	// A line: the name, ` = `, 26 terminals with quotes and 25 blanks between, `;` and its end.
	if src, f := render.Print(text(defs[:14]...)); len(src) != 14*(11+3+26*14+25+2) || f != (api.Fault{}) {
		t.Fatalf("%d bytes, fault %v", len(src), f)
	}
	wantFault(t, text(defs[:14]...), 0, 0)
	if _, f := render.Print(text(defs...)); f != (api.Fault{Code: api.ErrMany, At: -1}) {
		t.Fatalf("fault %v", f)
	}
	wantFault(t, text(defs...), api.ErrMany, -1)
	defs[1].Name = defs[0].Name
	wantFault(t, text(defs[:14]...), api.ErrTwice, 1)
	wantFault(t, text(defs...), api.ErrMany, -1)
}

// P4.1: names that come twice.

func TestCheckOfNamesThatComeTwice(t *testing.T) {
	wantFault(t, read(t, `S = ; S = ;`), api.ErrTwice, 1)
	wantFault(t, read(t, `S = "a"; T = S; S = "a";`), api.ErrTwice, 2)
	wantFault(t, read(t, `S = ; T = ; T = ;`), api.ErrTwice, 2)
	wantFault(t, read(t, `S = ; T = ; U = ; T = ; S = ;`), api.ErrTwice, 3)
	wantFault(t, read(t, `S = ; T = ; U = ; S = ; T = ;`), api.ErrTwice, 3)
	wantFault(t, read(t, `S = ; S = ; S = ; S = ;`), api.ErrTwice, 1)
	wantFault(t, read(t, `A = ; AA = ; _A = ; A_ = ;`), 0, 0)
}

func TestCheckOfEachPairOfTheSameName(t *testing.T) {
	for i := range api.MaxDefs {
		for j := range i {
			defs := numbered(api.MaxDefs, row())
			defs[i].Name = defs[j].Name
			wantFault(t, text(defs...), api.ErrTwice, i)
		}
	}
}

func TestCheckTellsTwiceAheadOfTheOthers(t *testing.T) {
	wantFault(t, read(t, `S = U; S = ;`), api.ErrTwice, 1)
	wantFault(t, read(t, `S = U; T = U; T = U;`), api.ErrTwice, 2)
	wantFault(t, text(def("S", terms(api.MaxTerms+1)), def("S", row())), api.ErrTwice, 1)
	wantFault(t, text(def("S", row()), def("S", terms(api.MaxTerms+1)), def("T", name("U"))), api.ErrTwice, 1)
}

// P4.1: names without a definition.

func TestCheckOfNamesWithoutDefinition(t *testing.T) {
	wantFault(t, read(t, `S = T;`), api.ErrNone, 0)
	wantFault(t, read(t, `S = ; T = U;`), api.ErrNone, 1)
	wantFault(t, read(t, `S = T; T = S S U S; V = W;`), api.ErrNone, 1)
	wantFault(t, read(t, `S = U; T = V;`), api.ErrNone, 0)
	wantFault(t, read(t, `S = T; T = S; U = SS;`), api.ErrNone, 2)
	wantFault(t, read(t, `Sum = S;`), api.ErrNone, 0)
}

func TestCheckOfNamesWithoutDefinitionInEachKind(t *testing.T) {
	for _, e := range words(`N (N|S) (S|N) (S|S|S|N) [N] {N} <N> (S(S(N))S) [{<S|N>}] (|N) ([S][N]S)`) {
		for _, src := range []string{"S = %;", "S = S %;", "S = % S;", "S = S | %;", "S = [%];", `S = "N" "S" %;`} {
			src = strings.ReplaceAll(src, "%", e)
			wantFault(t, read(t, src), api.ErrNone, 0)
			wantFault(t, read(t, "T = S; "+src+"U = N;"), api.ErrNone, 1)
			wantFault(t, read(t, src+"N = ;"), 0, 0)
			wantFault(t, read(t, "N = ;"+src), 0, 0)
		}
	}
}

func TestCheckOfEachNameWithoutDefinition(t *testing.T) {
	for i := range api.MaxDefs {
		for j := i; j < api.MaxDefs; j++ {
			defs := numbered(api.MaxDefs, row(name("D0"), name("D15")))
			defs[i].E = row(name("D1"), name("D16"))
			defs[j].E = row(name("D17"), name("D1"))
			wantFault(t, text(defs...), api.ErrNone, i)
		}
	}
}

func TestCheckTellsNoneAheadOfMany(t *testing.T) {
	many := terms(api.MaxTerms + 1)
	wantFault(t, text(def("S", row(many, name("U")))), api.ErrNone, 0)
	wantFault(t, text(def("S", many), def("T", name("S")), def("U", name("V"))), api.ErrNone, 2)
}

// P4.1: too many terminals.

func TestCheckOfManyTerminals(t *testing.T) {
	for n := 2; n <= api.MaxTerms; n++ {
		wantFault(t, text(def("S", terms(n))), 0, 0)
	}
	for n := api.MaxTerms + 1; n <= api.MaxParts; n++ {
		wantFault(t, text(def("S", terms(n))), api.ErrMany, -1)
	}
}

func TestCheckOfManyTerminalsInManyDefinitions(t *testing.T) {
	defs := numbered(api.MaxDefs, row())
	for i := range defs {
		defs[i].E = term("t" + strconv.Itoa(i))
	}
	wantFault(t, text(defs...), 0, 0)
	defs[3].E = row(defs[3].E, term("more"))
	wantFault(t, text(defs...), api.ErrMany, -1)
	// In place of another one it is one of sixteen again.
	defs[9].E = term("more")
	wantFault(t, text(defs...), 0, 0)
}

// Of one terminal there may be many: each counts once.
func TestCheckCountsEachTerminalOnce(t *testing.T) {
	all := row(slices.Repeat([]api.Expr{term("a"), term("b"), term("c")}, api.MaxParts/3)...)
	wantFault(t, text(numbered(api.MaxDefs, all)...), 0, 0)
	wantTerms(t, text(numbered(api.MaxDefs, all)...), words("a b c"))
	full := terms(api.MaxTerms)
	full.L = append(full.L, full.L...)
	defs := numbered(api.MaxDefs, full)
	wantFault(t, text(defs...), 0, 0)
	defs[15].E = row(full, term("more"))
	wantFault(t, text(defs...), api.ErrMany, -1)
}

// What is not a terminal is not counted.
func TestCheckCountsNoNames(t *testing.T) {
	defs := numbered(api.MaxDefs, terms(api.MaxTerms))
	all := row()
	for _, d := range defs {
		all.L = append(all.L, name(d.Name))
	}
	defs[0].E = all
	wantFault(t, text(defs...), 0, 0)
}

// Names.

func TestNamesOfWhateverDefinitions(t *testing.T) {
	wantNames(t, api.Text{}, nil)
	wantNames(t, api.Text{Defs: []api.Def{}}, nil)
	wantNames(t, text(def("", row())), []string{""})
	wantNames(t, text(def("S", row()), def("T", row()), def("S", row()), def("S", row())), words("S T S S"))
	wantNames(t, text(def("b", name("x")), def("1", term("y")), def("", api.Expr{}), def("a b", of(-7)), def("", row())), []string{"b", "1", "", "a b", ""})
	wantNames(t, text(api.Def{Name: "S", At: math.MinInt}, api.Def{Name: "A", At: math.MaxInt}, api.Def{Name: "\xff\x00"}), []string{"S", "A", "\xff\x00"})
	wantNames(t, text(make([]api.Def, 100000)...), make([]string, 100000))
}

// Terms.

func TestTermsInTheirOrder(t *testing.T) {
	for src, want := range map[string]string{
		`S = "a" "b" "c";`:                           "a b c",
		`S = "c" "b" "a";`:                           "c b a",
		`S = "a" "a" "a";`:                           "a",
		`S = "b" "a" "b" "a" "c" "a";`:               "b a c",
		`S = ["c" | {"a"}] (<"b"> "a") "d";`:         "c a b d",
		`S = ((("c") "b") "a");`:                     "c b a",
		`S = ("c" ("b" ("a")));`:                     "c b a",
		`S = "z"; T = "y"; U = "z" "x";`:             "z y x",
		`S = T; T = "t"; U = "u" "t"; V = "v" "u";`:  "t u v",
		`S = T "s"; T = "t";`:                        "s t",
		`S = "=" "|" ";" "#" "(" ")" "A" "a" "aa";`:  "= | ; # ( ) A a aa",
		`S = | "b" | | "a"; S = "c" | "b"; S = "a";`: "b a c",
	} {
		wantTerms(t, read(t, src), words(want))
	}
}

func TestTermsOfWhateverDefinitions(t *testing.T) {
	wantTerms(t, api.Text{}, nil)
	wantTerms(t, api.Text{Defs: []api.Def{}}, nil)
	wantTerms(t, text(def("S", row())), nil)
	wantTerms(t, text(make([]api.Def, 1000)...), nil)
	// Names that no terminal may have.
	wantTerms(t, text(def("", row(term(""), term("\""), term(""), term("\xff"), term("very long indeed")))), []string{"", "\"", "\xff", "very long indeed"})
	// More than a text may have.
	wantTerms(t, text(def("S", terms(100)), def("S", terms(101))), Terms(text(def("S", terms(101)))))
	defs := numbered(100, name("A"))
	defs[99].E = term("a")
	wantTerms(t, text(defs...), words("a"))
	// Terminals in what may have no parts, or other ones: each ahead of its parts.
	odd := api.Expr{Op: api.XTerm, Name: "b", L: []api.Expr{term("a"), row(term("c")), term("b")}}
	wantTerms(t, text(def("S", odd)), words("b a c"))
	odd.Op = api.XName
	wantTerms(t, text(def("S", odd)), words("a c b"))
	for op := api.XRow; op <= api.XPlus; op++ {
		wantTerms(t, text(def("S", of(op)), def("1", of(op, term("b"))), def("T", of(op, term("a"), term("b"), term("c")))), words("b a c"))
	}
	for _, op := range []int{0, -1, 8, 100, math.MaxInt, math.MinInt} {
		wantTerms(t, text(def("S", api.Expr{Op: op, Name: "x", L: []api.Expr{term("b"), {Op: op, Name: "y"}, term("a")}})), words("b a"))
	}
}

// Texts made up, held against other ways to tell the same.

// flat lists an expression and its parts, each ahead of its own; it keeps what is still to come in a list.
func flat(e api.Expr) (out []api.Expr) {
	next := []api.Expr{e}
	for len(next) > 0 {
		e, next = next[0], next[1:]
		out = append(out, e)
		next = slices.Concat(e.L, next)
	}
	return out
}

// once leaves out what came ahead.
func once(l []string) (out []string) {
	for i, s := range l {
		if slices.Index(l, s) == i {
			out = append(out, s)
		}
	}
	return out
}

func named(x api.Text, op int) (out []string) {
	for _, d := range x.Defs {
		for _, e := range flat(d.E) {
			if e.Op == op {
				out = append(out, e.Name)
			}
		}
	}
	return out
}

// judge tells Check's fault, first asking how often each definition comes, then whether it is spoken of.
func judge(x api.Text) api.Fault {
	if f := render.Check(x); f.Code != 0 {
		return f
	}
	first := map[string]int{}
	for i, d := range x.Defs {
		if _, ok := first[d.Name]; ok {
			return api.Fault{Code: api.ErrTwice, At: i}
		}
		first[d.Name] = i
	}
	for i, d := range x.Defs {
		for _, s := range named(text(d), api.XName) {
			if _, ok := first[s]; !ok {
				return api.Fault{Code: api.ErrNone, At: i}
			}
		}
	}
	if len(once(named(x, api.XTerm))) > 16 {
		return api.Fault{Code: api.ErrMany, At: -1}
	}
	return api.Fault{}
}

func holdAgainstJudge(t *testing.T, x api.Text) api.Fault {
	t.Helper()
	f := judge(x)
	wantFault(t, x, f.Code, f.At)
	wantTerms(t, x, once(named(x, api.XTerm)))
	var names []string
	for i := range x.Defs {
		names = append(names, x.Defs[i].Name)
	}
	wantNames(t, x, names)
	return f
}

// holdAgainstTokens: what is printed has the same names and terminals in its tokens.
func holdAgainstTokens(t *testing.T, x api.Text) {
	t.Helper()
	src, f := render.Print(x)
	if f.Code != 0 {
		return
	}
	tokens, _ := token.Scan(src)
	var names, terms []string
	for i, k := range tokens {
		switch {
		case k.Kind == api.TokTerm:
			terms = append(terms, k.Text)
		case k.Kind == api.TokSign && k.Text == "=":
			names = append(names, tokens[i-1].Text)
		}
	}
	wantNames(t, x, names)
	wantTerms(t, x, once(terms))
}

// maker makes up texts: fine ones, and, by wild, ones that may not be printed.
type maker struct {
	*rand.Rand
	wild  int // of a hundred expressions, how many are malformed
	names int // how many names the expressions may speak of
	terms int // how many terminals there may be
}

func (m *maker) list(n, deep int) (l []api.Expr) {
	for range n {
		l = append(l, m.expr(deep))
	}
	return l
}

func (m *maker) expr(deep int) api.Expr {
	if m.Intn(100) < m.wild {
		return api.Expr{Op: m.Intn(14) - 3, Name: []string{"", "t1", "D1"}[m.Intn(3)], L: m.list(m.Intn(3)*min(deep, 1), deep-1)}
	}
	kind := 1 + m.Intn(7)
	if deep == 0 {
		kind = 1 + m.Intn(2)
	}
	switch kind {
	case api.XName:
		return name("D" + strconv.Itoa(m.Intn(m.names)))
	case api.XTerm:
		return term("t" + strconv.Itoa(m.Intn(m.terms)))
	case api.XRow:
		return row(m.list([]int{0, 2, 2, 3}[m.Intn(4)], deep-1)...)
	case api.XAlt:
		return alt(m.list(2+m.Intn(2), deep-1)...)
	}
	return of(kind, m.expr(deep-1))
}

func (m *maker) text(deep int) api.Text {
	defs := numbered(1+m.Intn(m.names), row())
	for i := range defs {
		defs[i].E = m.expr(m.Intn(1 + deep))
		if m.Intn(100) == 0 {
			defs[i].Name = defs[m.Intn(len(defs))].Name
		}
	}
	m.Shuffle(len(defs), func(i, j int) { defs[i], defs[j] = defs[j], defs[i] })
	return text(defs...)
}

func TestTextsMadeUp(t *testing.T) {
	seen := map[int]int{}
	for _, wild := range []int{0, 1, 20} {
		m := &maker{Rand: rand.New(rand.NewSource(int64(3 + wild))), wild: wild}
		for range 4000 {
			m.names, m.terms = 1+m.Intn(api.MaxDefs+1), 1+m.Intn(30)
			x := m.text(5)
			seen[holdAgainstJudge(t, x).Code]++
			holdAgainstTokens(t, x)
			if t.Failed() {
				return
			}
		}
	}
	for _, code := range []int{0, api.ErrTwice, api.ErrNone, api.ErrMany, api.ErrForm} {
		if seen[code] < 20 {
			t.Errorf("code %d was told %d times alone", code, seen[code])
		}
	}
}

func FuzzDefs(f *testing.F) {
	f.Add(`S = "b" T "a" "b"; T = S;`)
	f.Add(`S = ["a" | U]; T = ; S = {"T"} <"b" (S T)>;`)
	f.Add(`S = "a""b""c""d""e""f""g""h""i""j""k""l""m""n""o""p""q";`)
	f.Fuzz(func(t *testing.T, src string) {
		if x, fault := syntax.Parse(src); fault.Code == 0 {
			holdAgainstJudge(t, x)
			holdAgainstTokens(t, x)
		}
	})
}

// What holds everywhere: what is handed in stays, and what is answered is new.

// roomy lays the lists of an expression anew, with something behind the length of each.
func roomy(e api.Expr) api.Expr {
	l := make([]api.Expr, 0, len(e.L)+2)
	for _, x := range e.L {
		l = append(l, roomy(x))
	}
	l[:cap(l)][len(l)] = term("hidden")
	return api.Expr{Op: e.Op, Name: e.Name, L: l}
}

func roomyText(x api.Text) api.Text {
	defs := make([]api.Def, 0, len(x.Defs)+2)
	for _, d := range x.Defs {
		defs = append(defs, api.Def{Name: d.Name, At: d.At, E: roomy(d.E)})
	}
	defs[:cap(defs)][len(defs)] = def("Hidden", term("hidden"))
	return api.Text{Defs: defs}
}

// memory tells all that lies in the lists of a text, behind their lengths, too.
func memory(x api.Text) (out []any) {
	var tell func(l []api.Expr)
	tell = func(l []api.Expr) {
		out = append(out, len(l), cap(l))
		for _, e := range l[:cap(l)] {
			out = append(out, e.Op, e.Name)
			tell(e.L)
		}
	}
	for _, d := range x.Defs[:cap(x.Defs)] {
		out = append(out, d.Name, d.At)
		tell([]api.Expr{d.E})
	}
	return out
}

func TestNothingIsChanged(t *testing.T) {
	m := &maker{Rand: rand.New(rand.NewSource(10)), wild: 2, names: 6, terms: 12}
	for range 500 {
		x := roomyText(m.text(5))
		before := memory(x)
		holdAgainstJudge(t, x)
		if !reflect.DeepEqual(memory(x), before) {
			t.Fatalf("it was changed: %v", x)
		}
	}
}

func TestNothingBehindAListIsRead(t *testing.T) {
	with := func(odd api.Expr) api.Text {
		l := []api.Expr{name("S"), term("a"), odd}[:2]
		return api.Text{Defs: []api.Def{def("S", row(l...)), def("T", alt(row([]api.Expr{odd}[:0]...), name("S"))), def("S", odd)}[:2]}
	}
	for _, odd := range []api.Expr{{}, name("U"), term("b"), terms(50)} {
		wantFault(t, with(odd), 0, 0)
		wantNames(t, with(odd), words("S T"))
		wantTerms(t, with(odd), words("a"))
	}
}

func TestNothingIsKept(t *testing.T) {
	x := read(t, `S = "b" T; T = "a";`)
	names, terms := Names(x), Terms(x)
	x.Defs[0].E.L[0].Name, x.Defs[1].Name = "c", "U"
	if !slices.Equal(names, words("S T")) || !slices.Equal(terms, words("b a")) {
		t.Errorf("what was answered became %v, %v", names, terms)
	}
	wantFault(t, x, api.ErrNone, 0)
	wantNames(t, x, words("S U"))
	wantTerms(t, x, words("c a"))
}

func TestWhatIsAnsweredIsNew(t *testing.T) {
	x := read(t, `S = "b" T; T = "a";`)
	for _, ask := range []func(api.Text) []string{Names, Terms} {
		want := slices.Clone(ask(x))
		got := ask(x)
		clear(got[:cap(got)])
		if again := ask(x); !slices.Equal(again, want) {
			t.Errorf("asked again: %v, want %v", again, want)
		}
	}
	wantFault(t, x, 0, 0)
}

// P1: whatever it is given.

func TestOfDeepExpressions(t *testing.T) {
	for op := -1; op <= 9; op++ {
		x := text(def("S", nest(1<<16-1, op, term("a"))))
		wantFault(t, x, api.ErrMany, 0)
		wantNames(t, x, words("S"))
		want := []string{"a"}
		if op == api.XTerm {
			want = []string{"", "a"}
		}
		wantTerms(t, x, want)
	}
}

// A terminal among very many is looked for as fast as one among few.
func TestOfWideExpressions(t *testing.T) {
	const n = 300000
	x := text(def("S", terms(n)), def("T", terms(n)))
	wantFault(t, x, api.ErrMany, 0)
	got := Terms(x)
	if len(got) != n || got[0] != "t0" || got[n-1] != "t"+strconv.Itoa(n-1) {
		t.Errorf("%d terminals", len(got))
	}
	many := text(numbered(n, terms(1))...)
	wantFault(t, many, api.ErrMany, -1)
	wantTerms(t, many, words("t0"))
	if got := Names(many); len(got) != n || got[n-1] != "D"+strconv.Itoa(n-1) {
		t.Errorf("%d names", len(got))
	}
}

// Definitions that share and even hold themselves may be asked for what is wrong with them.
func TestCheckOfExpressionsThatShareMemory(t *testing.T) {
	for op := -1; op <= 9; op++ {
		e := term("a")
		for range 200 {
			e = of(op, e, e)
		}
		wantFault(t, text(def("S", e)), api.ErrMany, 0)
		round := make([]api.Expr, 2)
		round[0], round[1] = of(op, round...), of(op, round...)
		wantFault(t, text(def("S", round[0])), api.ErrMany, 0)
	}
}
