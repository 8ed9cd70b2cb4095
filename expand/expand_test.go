package expand

import (
	"fmt"
	"maps"
	"math/rand"
	"reflect"
	"slices"
	"strconv"
	"strings"
	"testing"

	"graftwork/api"
	"graftwork/defs"
	"graftwork/gram"
	"graftwork/syntax"
)

func name(s string) api.Expr { return api.Expr{Op: api.XName, Name: s} }
func term(s string) api.Expr { return api.Expr{Op: api.XTerm, Name: s} }

func of(op int, l ...api.Expr) api.Expr { return api.Expr{Op: op, L: l} }
func row(l ...api.Expr) api.Expr        { return of(api.XRow, l...) }
func alt(l ...api.Expr) api.Expr        { return of(api.XAlt, l...) }

func def(name string, e api.Expr) api.Def { return api.Def{Name: name, E: e} }
func text(defs ...api.Def) api.Text       { return api.Text{Defs: defs} }

// nest puts n of a kind around an expression.
func nest(n, op int, e api.Expr) api.Expr {
	for range n {
		e = of(op, e)
	}
	return e
}

// times: a row of n times the same, or, of one, that alone.
func times(n int, e api.Expr) api.Expr {
	if n == 1 {
		return e
	}
	return row(slices.Repeat([]api.Expr{e}, n)...)
}

// empties: an expression of n ways without symbols.
func empties(n int) api.Expr {
	if n == 1 {
		return row()
	}
	return alt(slices.Repeat([]api.Expr{row()}, n)...)
}

// numbered: n definitions D0, D1 and so on, all of the same expression.
func numbered(n int, e api.Expr) (defs []api.Def) {
	for i := range n {
		defs = append(defs, def("D"+strconv.Itoa(i), e))
	}
	return defs
}

// brief tells the front of a text, of whatever size: it may hold itself.
func brief(x api.Text) string {
	room := 60
	var tell func(e api.Expr) string
	tell = func(e api.Expr) string {
		s := strconv.Itoa(e.Op) + e.Name
		for _, p := range e.L {
			if room--; room < 0 {
				return s + ".."
			}
			s += "(" + tell(p) + ")"
		}
		return s
	}
	s := ""
	for _, d := range x.Defs {
		if room--; room < 0 {
			return s + ".."
		}
		s += d.Name + " = " + tell(d.E) + "; "
	}
	return s
}

func read(t *testing.T, src string) api.Text {
	t.Helper()
	x, f := syntax.Parse(src)
	if f != (api.Fault{}) {
		t.Fatalf("Parse(%q): fault %v", src, f)
	}
	return x
}

// told tells rules as the document does: terminals by #, `;` between the rules.
func told(rules []api.Rule) string {
	var out []string
	for _, r := range rules {
		s := strconv.Itoa(r.Left) + " >"
		for _, n := range r.Right {
			if n < 0 {
				s += " #" + strconv.Itoa(-1-n)
			} else {
				s += " " + strconv.Itoa(n)
			}
		}
		out = append(out, s)
	}
	return strings.Join(out, "; ")
}

func made(t *testing.T, x api.Text) Made {
	t.Helper()
	m, f := Make(x)
	if f != (api.Fault{}) {
		t.Fatalf("Make(%s): fault %v", brief(x), f)
	}
	return m
}

// wantMade: the text x becomes vars nonterminals with these rules; all else of it is as it must be.
func wantMade(t *testing.T, x api.Text, vars int, rules string) {
	t.Helper()
	m := made(t, x)
	if m.G.Vars != vars || m.G.Start != 0 || told(m.G.Rules) != rules {
		t.Errorf("Make(%s): %d nonterminals, start %d, rules\n%s\nwant %d,\n%s", brief(x), m.G.Vars, m.G.Start, told(m.G.Rules), vars, rules)
	}
	wantAround(t, x, m)
}

// wantAround: names and terminals are those of defs, and the grammar is right.
func wantAround(t *testing.T, x api.Text, m Made) {
	t.Helper()
	if !slices.Equal(m.Names, defs.Names(x)) || !slices.Equal(m.Terms, defs.Terms(x)) || m.G.Terms != len(m.Terms) {
		t.Errorf("Make(%s): names %v, %d terminals, %v", brief(x), m.Names, m.G.Terms, m.Terms)
	}
	if f := gram.Check(m.G); f != (api.Fault{}) {
		t.Errorf("Make(%s): the grammar has the fault %v", brief(x), f)
	}
}

func wantRules(t *testing.T, src string, vars int, rules string) {
	t.Helper()
	wantMade(t, read(t, src), vars, rules)
}

// wantFault: that is wrong with it, and all else is zero.
func wantFault(t *testing.T, x api.Text, code, at int) {
	t.Helper()
	m, f := Make(x)
	if want := (api.Fault{Code: code, At: at}); f != want {
		t.Errorf("Make(%s): fault %v, want %v", brief(x), f, want)
	}
	g := m.G
	if g.Vars != 0 || g.Terms != 0 || g.Start != 0 || len(g.Rules) != 0 || len(m.Names) != 0 || len(m.Terms) != 0 {
		t.Errorf("Make(%s): beside a fault: %d nonterminals, %d terminals, start %d, %d rules, %d names, %d names of terminals",
			brief(x), g.Vars, g.Terms, g.Start, len(g.Rules), len(m.Names), len(m.Terms))
	}
}

// Ordinary definitions.

func TestTheExamples(t *testing.T) {
	wantRules(t, `S = { "a" };`, 2, "1 >; 1 > #0 1; 0 > 1")
	wantRules(t, `S = S "a" | "b";`, 1, "0 > 0 #0; 0 > #1")
	wantRules(t, `S = S S | "a";`, 1, "0 > 0 0; 0 > #0")
}

func TestEachKindAlone(t *testing.T) {
	for src, want := range map[string]string{
		`S = "a";`:                     "0 > #0",
		`S = S;`:                       "0 > 0",
		`S = ;`:                        "0 >",
		`S = "a" S "b";`:               "0 > #0 0 #1",
		`S = "a" | S | "b";`:           "0 > #0; 0 > 0; 0 > #1",
		`S = | "a" S | ;`:              "0 >; 0 > #0 0; 0 >",
		`S = | ;`:                      "0 >; 0 >",
		`S = "b" "a" "b" | "a" | "c";`: "0 > #0 #1 #0; 0 > #1; 0 > #2",
	} {
		wantRules(t, src, 1, want)
	}
	for src, want := range map[string]string{
		`S = ["a"];`:       "1 >; 1 > #0; 0 > 1",
		`S = {"a"};`:       "1 >; 1 > #0 1; 0 > 1",
		`S = <"a">;`:       "1 > #0; 1 > #0 1; 0 > 1",
		`S = [S];`:         "1 >; 1 > 0; 0 > 1",
		`S = {S};`:         "1 >; 1 > 0 1; 0 > 1",
		`S = <S>;`:         "1 > 0; 1 > 0 1; 0 > 1",
		`S = [];`:          "1 >; 1 >; 0 > 1",
		`S = {};`:          "1 >; 1 > 1; 0 > 1",
		`S = <>;`:          "1 >; 1 > 1; 0 > 1",
		`S = ["a" "b"];`:   "1 >; 1 > #0 #1; 0 > 1",
		`S = {"a" "b"};`:   "1 >; 1 > #0 #1 1; 0 > 1",
		`S = <"a" "b">;`:   "1 > #0 #1; 1 > #0 #1 1; 0 > 1",
		`S = ["a"|"b"];`:   "1 >; 1 > #0; 1 > #1; 0 > 1",
		`S = {"a"|"b"};`:   "1 >; 1 > #0 1; 1 > #1 1; 0 > 1",
		`S = <"a"|"b">;`:   "1 > #0; 1 > #0 1; 1 > #1; 1 > #1 1; 0 > 1",
		`S = [|"a"|];`:     "1 >; 1 >; 1 > #0; 1 >; 0 > 1",
		`S = {|"a"|};`:     "1 >; 1 > 1; 1 > #0 1; 1 > 1; 0 > 1",
		`S = <|"a"|S S>;`:  "1 >; 1 > 1; 1 > #0; 1 > #0 1; 1 > 0 0; 1 > 0 0 1; 0 > 1",
		`S = ("a"|"b") S;`: "1 > #0; 1 > #1; 0 > 1 0",
	} {
		wantRules(t, src, 2, want)
	}
}

func TestEachKindInARow(t *testing.T) {
	for in, own := range map[string]string{
		`["x"]`:     "1 >; 1 > #1; ",
		`{"x"}`:     "1 >; 1 > #1 1; ",
		`<"x">`:     "1 > #1; 1 > #1 1; ",
		`("x"|)`:    "1 > #1; 1 >; ",
		`("x"|S S)`: "1 > #1; 1 > 0 0; ",
		`{"x"|}`:    "1 >; 1 > #1 1; 1 > 1; ",
	} {
		wantRules(t, `S = "a" `+in+`;`, 2, own+"0 > #0 1")
		wantRules(t, `S = "a" `+in+` "a" S;`, 2, own+"0 > #0 1 #0 0")
		wantRules(t, `S = "a" | `+in+`;`, 2, "0 > #0; "+own+"0 > 1")
		wantRules(t, `S = "a" | S `+in+` | ;`, 2, "0 > #0; "+own+"0 > 0 1; 0 >")
	}
	// Rows in rows have no nonterminal of their own, nor does a row without parts.
	wantRules(t, `S = "a" ("b" ("c" "d") S) "e";`, 1, "0 > #0 #1 #2 #3 0 #4")
	wantRules(t, `S = "a" () "b" ();`, 1, "0 > #0 #1")
	wantRules(t, `S = (() ()) ();`, 1, "0 >")
	wantRules(t, `S = ("a" "b") | ("c" ("d" "a"));`, 1, "0 > #0 #1; 0 > #2 #3 #0")
	// Each one is a new one, also where it is like another one.
	wantRules(t, `S = ["a"] {"b"} <"c"> ("d"|) ["a"];`, 6, "1 >; 1 > #0; 2 >; 2 > #1 2; 3 > #2; 3 > #2 3; 4 > #3; 4 >; 5 >; 5 > #0; 0 > 1 2 3 4 5")
}

func TestEachKindAsAWay(t *testing.T) {
	wantRules(t, `S = "a" | S | | "b" S | ["a"] | {"b"} | <"a"> | ("a"|"b");`, 5,
		"0 > #0; 0 > 0; 0 >; 0 > #1 0; 1 >; 1 > #0; 0 > 1; 2 >; 2 > #1 2; 0 > 2; 3 > #0; 3 > #0 3; 0 > 3; 4 > #0; 4 > #1; 0 > 4")
	// A choice that is a way of another one is a new nonterminal; one that is all of what brackets hold is not.
	wantRules(t, `S = (("a"|"b")|"c");`, 2, "1 > #0; 1 > #1; 0 > 1; 0 > #2")
	wantRules(t, `S = [("a"|"b")|"c"];`, 3, "1 >; 2 > #0; 2 > #1; 1 > 2; 1 > #2; 0 > 1")
	wantRules(t, `S = {("a"|"b")|"c"};`, 3, "1 >; 2 > #0; 2 > #1; 1 > 2 1; 1 > #2 1; 0 > 1")
	wantRules(t, `S = <("a"|"b")|"c">;`, 3, "2 > #0; 2 > #1; 1 > 2; 1 > 2 1; 1 > #2; 1 > #2 1; 0 > 1")
	wantRules(t, `S = "a" | ("b" | ("c" | ("d" | "e")));`, 4, "0 > #0; 1 > #1; 2 > #2; 3 > #3; 3 > #4; 2 > 3; 1 > 2; 0 > 1")
}

func TestEachKindInEachOther(t *testing.T) {
	for src, want := range map[string]string{
		`S = [["a"]];`: "1 >; 2 >; 2 > #0; 1 > 2; 0 > 1",
		`S = [{"a"}];`: "1 >; 2 >; 2 > #0 2; 1 > 2; 0 > 1",
		`S = [<"a">];`: "1 >; 2 > #0; 2 > #0 2; 1 > 2; 0 > 1",
		`S = {["a"]};`: "1 >; 2 >; 2 > #0; 1 > 2 1; 0 > 1",
		`S = {{"a"}};`: "1 >; 2 >; 2 > #0 2; 1 > 2 1; 0 > 1",
		`S = {<"a">};`: "1 >; 2 > #0; 2 > #0 2; 1 > 2 1; 0 > 1",
		`S = <["a"]>;`: "2 >; 2 > #0; 1 > 2; 1 > 2 1; 0 > 1",
		`S = <{"a"}>;`: "2 >; 2 > #0 2; 1 > 2; 1 > 2 1; 0 > 1",
		`S = <<"a">>;`: "2 > #0; 2 > #0 2; 1 > 2; 1 > 2 1; 0 > 1",
	} {
		wantRules(t, src, 3, want)
	}
	wantRules(t, `S = [{<"a">}] ;`, 4, "1 >; 2 >; 3 > #0; 3 > #0 3; 2 > 3 2; 1 > 2; 0 > 1")
	wantRules(t, `S = {"a" ["b"] | <"c" | S> "d"} [S];`, 5,
		"1 >; 2 >; 2 > #1; 1 > #0 2 1; 3 > #2; 3 > #2 3; 3 > 0; 3 > 0 3; 1 > 3 #3 1; 4 >; 4 > 0; 0 > 1 4")
	// Numbers go by where one begins, rules by where one ends.
	wantRules(t, `S = [["a"] ["b"]] ["c"];`, 5, "1 >; 2 >; 2 > #0; 3 >; 3 > #1; 1 > 2 3; 4 >; 4 > #2; 0 > 1 4")
	wantRules(t, `S = "a" ("b" ["c"] | ("d" | {"e"}) "a");`, 5, "2 >; 2 > #2; 1 > #1 2; 3 > #3; 4 >; 4 > #4 4; 3 > 4; 1 > 3 #0; 0 > #0 1")
}

func TestManyDefinitions(t *testing.T) {
	wantRules(t, `S = T "a"; T = S | "b";`, 2, "0 > 1 #0; 1 > 0; 1 > #1")
	wantRules(t, `B = A; A = C; C = A | ;`, 3, "0 > 1; 1 > 2; 2 > 1; 2 >")
	wantRules(t, `S = "z" U; T = "y" "z"; U = "x" T;`, 3, "0 > #0 2; 1 > #1 #0; 2 > #2 1")
	wantRules(t, `S = ["a"]; T = {S}; U = <T> | ["a"];`, 7, "3 >; 3 > #0; 0 > 3; 4 >; 4 > 0 4; 1 > 4; 5 > 1; 5 > 1 5; 2 > 5; 6 >; 6 > #0; 2 > 6")
	wantRules(t, `S = <"a" | T> [T] | ; T = ("b" | S S) "a";`, 5,
		"2 > #0; 2 > #0 2; 2 > 1; 2 > 1 2; 3 >; 3 > 1; 0 > 2 3; 0 >; 4 > #1; 4 > 0 0; 1 > 4 #0")
	// A terminal is no name, and Start is the first definition, whatever it is called.
	wantRules(t, `T = "S" S; S = "T" T;`, 2, "0 > #0 1; 1 > #1 0")
}

// Where a definition stands in a text makes no difference.
func TestPlacesMakeNoDifference(t *testing.T) {
	x := read(t, `S = ["a"] ; T = S;`)
	x.Defs[0].At, x.Defs[1].At = -7, 1<<40
	wantMade(t, x, 3, "2 >; 2 > #0; 0 > 2; 1 > 0")
}

func TestOfAllDefinitionsAndTerminalsThatThereMayBe(t *testing.T) {
	all := numbered(api.MaxDefs, row())
	want := make([]string, len(all))
	for i := range all {
		k := (i*7 + 3) % api.MaxDefs
		all[i].E = row(term("t"+strconv.Itoa(i)), name("D"+strconv.Itoa(k)))
		want[i] = fmt.Sprintf("%d > #%d %d", i, i, k)
	}
	wantMade(t, text(all...), api.MaxDefs, strings.Join(want, "; "))
}

// P6.1: defs.Check's fault, ahead of all else.

func TestWhatIsWrongWithDefinitions(t *testing.T) {
	wantFault(t, api.Text{}, api.ErrNone, -1)
	wantFault(t, text(numbered(api.MaxDefs+1, row())...), api.ErrMany, -1)
	wantFault(t, text(def("1", row())), api.ErrName, 0)
	wantFault(t, text(def("S", row()), def("T", api.Expr{})), api.ErrForm, 1)
	wantFault(t, text(def("S", row()), def("T", of(8, row()))), api.ErrForm, 1)
	wantFault(t, text(def("S", row(name("S")))), api.ErrForm, 0)
	wantFault(t, text(def("S", of(api.XStar))), api.ErrForm, 0)
	wantFault(t, text(def("S", of(api.XPlus, row(), row()))), api.ErrForm, 0)
	wantFault(t, text(def("S", term(""))), api.ErrName, 0)
	wantFault(t, text(def("S", times(api.MaxParts+1, name("S")))), api.ErrMany, 0)
	wantFault(t, text(def("S", nest(api.MaxOpen+1, api.XOpt, row()))), api.ErrDeep, 0)
	wantFault(t, read(t, `S = ; T = ; S = ;`), api.ErrTwice, 2)
	wantFault(t, read(t, `S = T;`), api.ErrNone, 0)
	wantFault(t, read(t, `S = S; T = {S | U};`), api.ErrNone, 1)
	wantFault(t, text(def("S", terms(api.MaxTerms+1))), api.ErrMany, -1)
}

// terms: a choice of n terminals, none twice.
func terms(n int) api.Expr {
	e := alt()
	for i := range n {
		e.L = append(e.L, term("t"+strconv.Itoa(i)))
	}
	return e
}

// What can't be numbered is told behind all that defs.Check tells, wherever that is.
func TestDefsFaultComesFirst(t *testing.T) {
	long := def("S", times(api.MaxRight+1, name("S")))
	wantFault(t, text(long), api.ErrMany, 0)
	wantFault(t, text(long, def("T", name("U"))), api.ErrNone, 1)
	wantFault(t, text(long, def("T", row()), def("T", row())), api.ErrTwice, 2)
	wantFault(t, text(long, def("T", api.Expr{Op: 9})), api.ErrForm, 1)
	wantFault(t, text(long, def("", row())), api.ErrName, 1)
	wantFault(t, text(long, def("T", terms(api.MaxTerms+1))), api.ErrMany, -1)
}

// P6.1: too many nonterminals.

// deep: definitions with so many new nonterminals each.
func deep(news ...int) api.Text {
	all := numbered(len(news), row())
	for i, n := range news {
		all[i].E = nest(n, api.XOpt, row())
	}
	return text(all...)
}

func TestManyNonterminals(t *testing.T) {
	for _, op := range []int{api.XOpt, api.XStar, api.XPlus} {
		x := text(def("S", nest(40, op, row())), def("T", nest(22, op, name("S"))))
		if m := made(t, x); m.G.Vars != api.MaxVars {
			t.Errorf("%d nonterminals", m.G.Vars)
		}
		x.Defs[1].E = of(op, x.Defs[1].E)
		wantFault(t, x, api.ErrMany, 1)
	}
}

func TestManyNonterminalsThatAreChoices(t *testing.T) {
	e := alt(term("a"), term("b"))
	for range 14 {
		e = alt(row(e, term("a")), term("b"))
	}
	// The outermost one is the definition's own.
	for n := 1; n <= api.MaxDefs; n++ {
		x := text(numbered(n, e)...)
		if at := firstAbove(n, 14); at < n {
			wantFault(t, x, api.ErrMany, at)
		} else if m := made(t, x); m.G.Vars != 15*n {
			t.Errorf("%d definitions: %d nonterminals", n, m.G.Vars)
		}
	}
}

// firstAbove: of n definitions with so many new ones each, the number of the first one with too many; n, if none has.
func firstAbove(n, news int) int {
	for i := range n {
		if n+news*(i+1) > 64 {
			return i
		}
	}
	return n
}

func TestNonterminalsAtTheBrim(t *testing.T) {
	for _, fine := range [][]int{{40, 22}, {22, 40}, {40, 0, 21}, {20, 20, 20, 0}, {31, 31}, slices.Repeat([]int{3}, 16)} {
		x := deep(fine...)
		if m := made(t, x); m.G.Vars != api.MaxVars {
			t.Errorf("%v: %d nonterminals", fine, m.G.Vars)
		}
		// One more in whichever definition: the last one that has any is the one that has too many.
		last := len(fine) - 1
		for fine[last] == 0 {
			last--
		}
		for i, n := range fine {
			more := slices.Clone(fine)
			if more[i]++; n < api.MaxOpen {
				wantFault(t, deep(more...), api.ErrMany, max(i, last))
			}
		}
	}
}

// Definitions count from the beginning on, also those behind the one that has too many.
func TestDefinitionsAreNonterminals(t *testing.T) {
	wantFault(t, deep(40, 22, 0), api.ErrMany, 1)
	wantFault(t, deep(0, 0, 0, 40, 21), api.ErrMany, 4)
	wantFault(t, deep(40, 9, 0, 0, 0, 0, 0, 0, 0, 0, 0, 0, 0, 0, 0, 0), api.ErrMany, 1)
	made(t, deep(40, 8, 0, 0, 0, 0, 0, 0, 0, 0, 0, 0, 0, 0, 0, 0))
	wantFault(t, deep(40, 40, 40), api.ErrMany, 1)
}

// P6.1: too many rules.

// wide: definitions with so many rules each, and no new nonterminal.
func wide(rules ...int) api.Text {
	all := numbered(len(rules), row())
	for i, n := range rules {
		all[i].E = empties(n)
	}
	return text(all...)
}

func TestManyRules(t *testing.T) {
	for _, fine := range [][]int{{60, 60, 40}, {40, 60, 60}, {1, 60, 60, 1, 38}, slices.Repeat([]int{10}, 16)} {
		if m := made(t, wide(fine...)); len(m.G.Rules) != api.MaxRules {
			t.Errorf("%v: %d rules", fine, len(m.G.Rules))
		}
		for i := range fine {
			more := slices.Clone(fine)
			more[i]++
			wantFault(t, wide(more...), api.ErrMany, len(fine)-1)
		}
	}
	wantFault(t, wide(60, 60, 41, 1), api.ErrMany, 2)
	wantFault(t, wide(60, 60, 40, 1), api.ErrMany, 3)
	wantFault(t, wide(60, 60, 40, 60, 60), api.ErrMany, 3)
	wantFault(t, wide(60, 60, 60, 60), api.ErrMany, 2)
}

// Rules of new nonterminals count, too, and the one that needs them comes behind.
func TestManyRulesOfNewNonterminals(t *testing.T) {
	a, b := term("a"), term("b")
	for _, last := range []struct {
		e     api.Expr
		rules int
	}{
		{of(api.XOpt, a), 3},
		{of(api.XStar, a), 3},
		{of(api.XPlus, a), 3},
		{row(a, alt(a, b)), 3},
		{of(api.XOpt, alt(a, b)), 4},
		{of(api.XStar, alt(a, b)), 4},
		{of(api.XPlus, alt(a, b)), 5},
		{of(api.XPlus, alt(a, of(api.XOpt, b))), 7},
	} {
		for ahead := 150; ahead <= 160; ahead++ {
			x := text(append(wide(60, 60, ahead-120).Defs, def("T", last.e))...)
			if ahead+last.rules > 160 {
				wantFault(t, x, api.ErrMany, 3)
			} else if m := made(t, x); len(m.G.Rules) != ahead+last.rules {
				t.Errorf("%v: %d rules, want %d", last.e, len(m.G.Rules), ahead+last.rules)
			}
		}
	}
}

// P6.1: too many symbols in a rule.

// shape: an expression around a row, and how many symbols its longest rule has beside those of the row.
type shape struct {
	e    api.Expr
	more int
}

func shapes(long api.Expr) []shape {
	b, hole := term("b"), of(api.XOpt, row())
	return []shape{
		{long, 0},
		{alt(row(), long), 0},
		{alt(long, row()), 0},
		{row(long, row()), 0},
		{row(row(), long), 0},
		{row(long, b), 1},
		{row(b, row(long, b)), 2},
		{row(b, alt(long, row())), 0},
		{row(long, hole), 1},
		{row(hole, long), 1},
		{of(api.XOpt, long), 0},
		{of(api.XStar, long), 1},
		{of(api.XPlus, long), 1},
		{of(api.XOpt, alt(row(), long)), 0},
		{of(api.XStar, alt(row(), long)), 1},
		{of(api.XPlus, alt(row(), long)), 1},
		{of(api.XOpt, alt(long, row())), 0},
		{of(api.XStar, alt(long, row())), 1},
		{of(api.XPlus, alt(long, row())), 1},
		{of(api.XStar, row(long, hole)), 2},
		{of(api.XPlus, row(hole, long)), 2},
	}
}

func longest(g api.Grammar) (n int) {
	for _, r := range g.Rules {
		n = max(n, len(r.Right))
	}
	return n
}

func TestManySymbols(t *testing.T) {
	for n := 3; n <= 14; n++ {
		for _, s := range slices.Concat(shapes(times(n, name("D0"))), shapes(times(n, term("a")))) {
			for at := range 3 {
				all := numbered(3, row())
				all[at].E = s.e
				if n+s.more > 10 {
					wantFault(t, text(all...), api.ErrMany, at)
				} else if got := longest(made(t, text(all...)).G); got != n+s.more {
					t.Errorf("%v: %d symbols, want %d", s.e, got, n+s.more)
				}
			}
		}
	}
}

// A row of ten is a rule of its own; a new nonterminal is one symbol, however much it holds.
func TestANewNonterminalIsOneSymbol(t *testing.T) {
	ten := times(api.MaxRight, term("a"))
	wantMade(t, text(def("S", alt(ten, row(of(api.XOpt, ten), of(api.XOpt, ten))))), 3,
		"0 > #0 #0 #0 #0 #0 #0 #0 #0 #0 #0; "+
			"1 >; 1 > #0 #0 #0 #0 #0 #0 #0 #0 #0 #0; 2 >; 2 > #0 #0 #0 #0 #0 #0 #0 #0 #0 #0; 0 > 1 2")
	nine := times(api.MaxRight-1, term("a"))
	wantMade(t, text(def("S", of(api.XPlus, nine))), 2,
		"1 > #0 #0 #0 #0 #0 #0 #0 #0 #0; 1 > #0 #0 #0 #0 #0 #0 #0 #0 #0 1; 0 > 1")
	wantMade(t, text(def("S", of(api.XStar, nine))), 2,
		"1 >; 1 > #0 #0 #0 #0 #0 #0 #0 #0 #0 1; 0 > 1")
	wantFault(t, text(def("S", of(api.XPlus, ten))), api.ErrMany, 0)
	wantFault(t, text(def("S", of(api.XStar, ten))), api.ErrMany, 0)
}

// P6.1: the first definition that has too many of anything.
func TestTheFirstOneIsTold(t *testing.T) {
	long, holes, ways := times(11, term("a")), times(10, nest(5, api.XOpt, row())), empties(60)
	wantFault(t, text(def("S", row()), def("T", long), def("U", long)), api.ErrMany, 1)
	wantFault(t, text(def("S", holes), def("T", long), def("U", holes)), api.ErrMany, 1)
	wantFault(t, text(def("S", holes), def("T", holes), def("U", long)), api.ErrMany, 1)
	wantFault(t, text(def("S", ways), def("T", ways), def("U", ways), def("V", long)), api.ErrMany, 2)
	wantFault(t, text(def("S", ways), def("T", ways), def("U", long), def("V", ways)), api.ErrMany, 2)
	wantFault(t, text(def("S", ways), def("T", holes), def("U", row()), def("V", long)), api.ErrMany, 1)
	wantFault(t, text(def("S", ways), def("T", holes), def("U", row())), api.ErrMany, 1)
	all := numbered(api.MaxDefs, row())
	for i := api.MaxDefs - 1; i >= 0; i-- {
		all[i].E = long
		wantFault(t, text(all...), api.ErrMany, i)
	}
}

// Texts made up, held against a second maker, and their words against those that the expressions say.

// second makes grammars without limits: what is new gets its number by counting ahead, its rules are answered and not put.
type second struct{ names, terms []string }

// news: how many nonterminals an expression makes new.
func news(e api.Expr) int {
	n := 0
	if e.Op >= api.XAlt {
		n = 1
	}
	if e.Op >= api.XOpt && e.L[0].Op == api.XAlt {
		n-- // a choice that is all of what brackets hold makes none
	}
	for _, x := range e.L {
		n += news(x)
	}
	return n
}

// one answers the rules that one way needs ahead of it, and its symbols, where next is the next number.
func (s second) one(e api.Expr, next int) (ahead []api.Rule, right []int) {
	switch {
	case e.Op == api.XTerm:
		return nil, []int{-slices.Index(s.terms, e.Name) - 1}
	case e.Op == api.XName:
		return nil, []int{slices.Index(s.names, e.Name)}
	case e.Op == api.XRow:
		for _, x := range e.L {
			a, r := s.one(x, next)
			ahead, right = append(ahead, a...), append(right, r...)
			next += news(x)
		}
		return ahead, right
	case e.Op == api.XAlt:
		return s.all(next, e, next+1, "once"), []int{next}
	}
	if e.Op != api.XPlus {
		ahead = []api.Rule{{Left: next}}
	}
	how := []string{"once", "again", "once again"}[e.Op-api.XOpt]
	return append(ahead, s.all(next, e.L[0], next+1, how)...), []int{next}
}

// all answers the rules of v, of each way of e.
func (s second) all(v int, e api.Expr, next int, how string) (out []api.Rule) {
	ways := []api.Expr{e}
	if e.Op == api.XAlt {
		ways = e.L
	}
	for _, w := range ways {
		ahead, right := s.one(w, next)
		out = append(out, ahead...)
		for _, h := range strings.Fields(how) {
			if h == "again" {
				right = append(slices.Clip(right), v)
			}
			out = append(out, api.Rule{Left: v, Right: right})
		}
		next += news(w)
	}
	return out
}

// byHand answers what Make must: a definition has too many, if there are too many behind it.
func byHand(x api.Text) (Made, api.Fault) {
	if f := defs.Check(x); f.Code != 0 {
		return Made{}, f
	}
	s := second{names: defs.Names(x), terms: defs.Terms(x)}
	g := api.Grammar{Vars: len(s.names), Terms: len(s.terms)}
	for i, d := range x.Defs {
		g.Rules = append(g.Rules, s.all(i, d.E, g.Vars, "once")...)
		g.Vars += news(d.E)
		if d.E.Op == api.XAlt {
			g.Vars--
		}
		long := slices.ContainsFunc(g.Rules, func(r api.Rule) bool { return len(r.Right) > 10 })
		if g.Vars > 64 || len(g.Rules) > 160 || long {
			return Made{}, api.Fault{Code: api.ErrMany, At: i}
		}
	}
	return Made{G: g, Names: s.names, Terms: s.terms}, api.Fault{}
}

func holdAgainstSecond(t *testing.T, x api.Text) api.Fault {
	t.Helper()
	m, f := byHand(x)
	if f.Code != 0 {
		wantFault(t, x, f.Code, f.At)
	} else {
		wantMade(t, x, m.G.Vars, told(m.G.Rules))
	}
	return f
}

// words: a set of words, each terminal the byte of its number, none longer than most.
type words map[string]struct{}

const most = 3

func (w words) add(s string) {
	if len(s) <= most {
		w[s] = struct{}{}
	}
}

// behind: each of w, and each of v behind it.
func (w words) behind(v words) words {
	out := words{}
	for a := range w {
		for b := range v {
			out.add(a + b)
		}
	}
	return out
}

func (w words) and(v words) words {
	out := words{}
	for _, l := range []words{w, v} {
		for s := range l {
			out.add(s)
		}
	}
	return out
}

func only(s string) words { return words{s: {}} }

// says answers the words of an expression, where those of the definitions are known.
func says(e api.Expr, known map[string]words, terms []string) words {
	out := words{}
	switch e.Op {
	case api.XTerm:
		return only(string([]byte{byte(slices.Index(terms, e.Name))}))
	case api.XName:
		return known[e.Name]
	case api.XRow:
		out = only("")
		for _, x := range e.L {
			out = out.behind(says(x, known, terms))
		}
	case api.XAlt:
		for _, x := range e.L {
			out = out.and(says(x, known, terms))
		}
	case api.XOpt:
		return only("").and(says(e.L[0], known, terms))
	default:
		in := says(e.L[0], known, terms)
		out = only("")
		for range most {
			out = out.and(out.behind(in))
		}
		if _, empty := in[""]; e.Op == api.XPlus && !empty {
			delete(out, "")
		}
	}
	return out
}

// wordsSaid answers the words of each definition, by what the expressions say.
func wordsSaid(x api.Text) []words {
	terms := defs.Terms(x)
	known := map[string]words{}
	for size := -1; size != total(known); {
		size = total(known)
		next := map[string]words{}
		for _, d := range x.Defs {
			next[d.Name] = says(d.E, known, terms)
		}
		known = next
	}
	var out []words
	for _, d := range x.Defs {
		out = append(out, known[d.Name])
	}
	return out
}

func total(known map[string]words) (n int) {
	for _, w := range known {
		n += len(w)
	}
	return n
}

// wordsMade answers the words of each nonterminal, by the rules.
func wordsMade(g api.Grammar) []words {
	out := make([]words, g.Vars)
	for v := range out {
		out[v] = words{}
	}
	for grew := true; grew; {
		grew = false
		for _, r := range g.Rules {
			w := only("")
			for _, s := range r.Right {
				if s < 0 {
					w = w.behind(only(string([]byte{byte(-1 - s)})))
				} else {
					w = w.behind(out[s])
				}
			}
			w = w.and(out[r.Left])
			grew = grew || len(w) > len(out[r.Left])
			out[r.Left] = w
		}
	}
	return out
}

// holdWords: a definition's nonterminal has the words that its expression says.
func holdWords(t *testing.T, x api.Text) {
	t.Helper()
	m, f := Make(x)
	if f.Code != 0 {
		return
	}
	got := wordsMade(m.G)
	for i, w := range wordsSaid(x) {
		if !maps.Equal(got[i], w) {
			t.Errorf("Make(%s): definition %d has %q, want %q", brief(x), i, got[i], w)
		}
	}
}

func TestWordsOfEachKind(t *testing.T) {
	for src, want := range map[string]string{
		`S = "a";`:                            "a",
		`S = ;`:                               ".",
		`S = S;`:                              "",
		`S = "a" "b" "a";`:                    "aba",
		`S = "a" | "b" "a" | ;`:               ". a ba",
		`S = ["a"] "b";`:                      "ab b",
		`S = {"a"};`:                          ". a aa aaa",
		`S = <"a">;`:                          "a aa aaa",
		`S = <["a"]>;`:                        ". a aa aaa",
		`S = {"a" "b"} "a";`:                  "a aba",
		`S = <"a" | "b" "b">;`:                "a aa aaa abb bb bba",
		`S = "a" S "b" | ;`:                   ". ab",
		`S = ("a" | "b") ("a" | );`:           "a aa b ba",
		`S = T {"a" T}; T = "b" | "(" S ")";`: "(b) b bab",
	} {
		x := read(t, src)
		var got []string
		for w := range wordsMade(made(t, x).G)[0] {
			s := ""
			for _, k := range []byte(w) {
				s += defs.Terms(x)[k]
			}
			if s == "" {
				s = "."
			}
			got = append(got, s)
		}
		slices.Sort(got)
		if strings.Join(got, " ") != want {
			t.Errorf("%s: %s, want %s", src, got, want)
		}
		holdWords(t, x)
	}
}

// author makes up texts: fine ones, and, by wild, ones that are malformed.
type author struct {
	*rand.Rand
	wild  int // of a hundred expressions, how many are malformed
	names int // how many names the expressions may speak of
	terms int // how many terminals there may be
	wide  int // how many parts a row or a choice may have more than two
}

func (m *author) list(n, deep int) (l []api.Expr) {
	for range n {
		l = append(l, m.expr(deep))
	}
	return l
}

func (m *author) expr(deep int) api.Expr {
	if m.Intn(100) < m.wild {
		return api.Expr{Op: m.Intn(14) - 3, Name: []string{"", "t1", "D1"}[m.Intn(3)], L: m.list(m.Intn(3)*min(deep, 1), deep-1)}
	}
	kind := 1 + m.Intn(7)
	if deep == 0 {
		kind = 1 + m.Intn(2)
	}
	switch kind {
	case api.XName:
		return name("D" + strconv.Itoa(m.Intn(m.names)))
	case api.XTerm:
		return term("t" + strconv.Itoa(m.Intn(m.terms)))
	case api.XRow:
		if m.Intn(4) == 0 {
			return row()
		}
		return row(m.list(2+m.Intn(1+m.wide), deep-1)...)
	case api.XAlt:
		return alt(m.list(2+m.Intn(1+m.wide), deep-1)...)
	}
	return of(kind, m.expr(deep-1))
}

func (m *author) text(deep int) api.Text {
	all := numbered(m.names, row())
	for i := range all {
		all[i].E = m.expr(m.Intn(1 + deep))
	}
	m.Shuffle(len(all), func(i, j int) { all[i], all[j] = all[j], all[i] })
	return text(all...)
}

func TestTextsMadeUp(t *testing.T) {
	seen := map[api.Fault]int{}
	for _, wild := range []int{0, 0, 5} {
		m := &author{Rand: rand.New(rand.NewSource(int64(6 + wild))), wild: wild}
		for range 4000 {
			m.names, m.terms, m.wide = 1+m.Intn(api.MaxDefs), 1+m.Intn(14), m.Intn(6)
			f := holdAgainstSecond(t, m.text(5))
			f.At = min(f.At, 3)
			seen[f]++
			if t.Failed() {
				return
			}
		}
	}
	for _, f := range []api.Fault{{}, {Code: api.ErrMany}, {Code: api.ErrMany, At: 1}, {Code: api.ErrMany, At: 3}, {Code: api.ErrForm, At: 1}} {
		if seen[f] < 20 {
			t.Errorf("the fault %v was told %d times alone", f, seen[f])
		}
	}
}

func TestWordsOfTextsMadeUp(t *testing.T) {
	m := &author{Rand: rand.New(rand.NewSource(61))}
	for range 1500 {
		m.names, m.terms, m.wide = 1+m.Intn(4), 1+m.Intn(3), m.Intn(2)
		holdWords(t, m.text(4))
		if t.Failed() {
			return
		}
	}
}

func FuzzMake(f *testing.F) {
	f.Add(`S = <"a" | T> [T] | ; T = ("b" | S S) "a";`)
	f.Add(`S = {"a" ["b"] | <"c" | S> "d"} [S];`)
	f.Add(`S = S S S S S S S S S S S;`)
	f.Add(`S = {((|)|[])} ; T = <S S S S S S S S S S>;`)
	f.Fuzz(func(t *testing.T, src string) {
		if x, fault := syntax.Parse(src); fault.Code == 0 {
			holdAgainstSecond(t, x)
		}
	})
}

// What holds everywhere: what is handed in stays, and what is answered is new.

// roomy lays the lists of an expression anew, with something behind the length of each.
func roomy(e api.Expr) api.Expr {
	l := make([]api.Expr, 0, len(e.L)+2)
	for _, x := range e.L {
		l = append(l, roomy(x))
	}
	l[:cap(l)][len(l)] = term("hidden")
	return api.Expr{Op: e.Op, Name: e.Name, L: l}
}

func roomyText(x api.Text) api.Text {
	all := make([]api.Def, 0, len(x.Defs)+2)
	for _, d := range x.Defs {
		all = append(all, api.Def{Name: d.Name, At: d.At, E: roomy(d.E)})
	}
	all[:cap(all)][len(all)] = def("Hidden", term("hidden"))
	return api.Text{Defs: all}
}

// memory tells all that lies in the lists of a text, behind their lengths, too.
func memory(x api.Text) (out []any) {
	var tell func(l []api.Expr)
	tell = func(l []api.Expr) {
		out = append(out, len(l), cap(l))
		for _, e := range l[:cap(l)] {
			out = append(out, e.Op, e.Name)
			tell(e.L)
		}
	}
	for _, d := range x.Defs[:cap(x.Defs)] {
		out = append(out, d.Name, d.At)
		tell([]api.Expr{d.E})
	}
	return out
}

func TestNothingIsChangedNorReadBehindALength(t *testing.T) {
	m := &author{Rand: rand.New(rand.NewSource(62)), wild: 1, names: 5, terms: 9, wide: 3}
	for range 500 {
		plain := m.text(5)
		x := roomyText(plain)
		before := memory(x)
		holdAgainstSecond(t, x)
		a, f := Make(plain)
		if b, g := Make(x); fmt.Sprint(a) != fmt.Sprint(b) || f != g {
			t.Fatalf("%v: what lies behind its lists makes a difference", x)
		}
		if !reflect.DeepEqual(memory(x), before) {
			t.Fatalf("it was changed: %v", x)
		}
	}
}

// scratch writes over a list, behind its length, too.
func scratch[T any](l []T, with T) {
	l = l[:cap(l)]
	for i := range l {
		l[i] = with
	}
}

func TestNoTwoListsShareMemory(t *testing.T) {
	for _, src := range []string{
		`S = <"a" "b" "c" | S | "a" "b" S T> {"a" T "b" | }; T = <<S S S S S S S> "a"> ["b"] | "a" "b" "c" "d" "e";`,
		`A = B "a"; B = <A A A> | <"b" "c" "d" "e">;`,
		`A = "A"; B = "B"; C = "C";`,
	} {
		x := read(t, src)
		before := memory(x)
		m, want := made(t, x), made(t, x)
		for i, r := range m.G.Rules {
			scratch(r.Right, 1000+i)
			for k, other := range m.G.Rules {
				if k > i && !slices.Equal(other.Right, want.G.Rules[k].Right) {
					t.Fatalf("%s: the rules %d and %d share memory", src, i, k)
				}
				if k < i && slices.Contains(other.Right, 1000+i) {
					t.Fatalf("%s: the rules %d and %d share memory", src, i, k)
				}
			}
		}
		scratch(m.G.Rules, api.Rule{Left: -9})
		scratch(m.Names, "?")
		if !slices.Equal(m.Terms, want.Terms) {
			t.Errorf("%s: names and terminals share memory", src)
		}
		scratch(m.Terms, "!")
		if slices.Contains(m.Names, "!") {
			t.Errorf("%s: names and terminals share memory", src)
		}
		if !reflect.DeepEqual(memory(x), before) {
			t.Errorf("%s: what is answered shares memory with what was handed in", src)
		}
		if again := made(t, x); fmt.Sprint(again) != fmt.Sprint(want) {
			t.Errorf("%s: asked again: %v, want %v", src, again, want)
		}
	}
}

func TestNothingIsKept(t *testing.T) {
	x := read(t, `S = "b" [T]; T = "a" | S;`)
	m := made(t, x)
	want := fmt.Sprint(m)
	x.Defs[0].E.L[0].Name = "c"
	x.Defs[0].E.L[1].L[0] = row()
	x.Defs[1].Name, x.Defs[1].E.L[1] = "U", row()
	if fmt.Sprint(m) != want {
		t.Errorf("what was answered became %v, was %s", m, want)
	}
	wantMade(t, x, 3, "2 >; 2 >; 0 > #0 2; 1 > #1; 1 >")
	wantFault(t, text(def("S", times(11, name("S")))), api.ErrMany, 0)
	wantMade(t, x, 3, "2 >; 2 >; 0 > #0 2; 1 > #1; 1 >")
}

// P1: whatever it is given.

func TestOfDeepAndWideExpressions(t *testing.T) {
	for op := -1; op <= 9; op++ {
		wantFault(t, text(def("S", nest(1<<16-1, op, term("a")))), api.ErrMany, 0)
		wide := of(op, slices.Repeat([]api.Expr{term("a")}, 300000)...)
		wantFault(t, text(def("S", wide)), api.ErrMany, 0)
		wantFault(t, text(numbered(300000, wide)...), api.ErrMany, -1)
	}
}

// Expressions that share memory, and even hold themselves.
func TestOfExpressionsThatShareMemory(t *testing.T) {
	for op := -1; op <= 9; op++ {
		e := term("a")
		for range 200 {
			e = of(op, e, e)
		}
		wantFault(t, text(def("S", e)), api.ErrMany, 0)
		round := make([]api.Expr, 2)
		round[0], round[1] = of(op, round...), of(op, round...)
		wantFault(t, text(def("S", round[0])), api.ErrMany, 0)
	}
	// One list in two places makes two nonterminals.
	l := []api.Expr{term("a")}
	star := api.Expr{Op: api.XStar, L: l}
	wantMade(t, text(def("S", row(star, star)), def("T", star)), 5, "2 >; 2 > #0 2; 3 >; 3 > #0 3; 0 > 2 3; 4 >; 4 > #0 4; 1 > 4")
}

// The largest texts that there may be end, too.
func TestOfLargeTexts(t *testing.T) {
	for _, e := range []api.Expr{
		nest(api.MaxOpen, api.XStar, alt(slices.Repeat([]api.Expr{row()}, 21)...)),
		times(20, of(api.XPlus, term("a"))),
		times(api.MaxParts, name("D0")),
		empties(api.MaxParts + 1),
	} {
		all := numbered(api.MaxDefs, e)
		holdAgainstSecond(t, text(all...))
		for n := range all {
			holdAgainstSecond(t, text(append(numbered(n, row()), all[n])...))
		}
	}
}
