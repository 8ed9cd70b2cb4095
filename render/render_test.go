package render

import (
	"fmt"
	"math"
	"math/rand"
	"reflect"
	"slices"
	"strings"
	"testing"

	"graftwork/api"
	"graftwork/syntax"
	"graftwork/token"
)

func name(s string) api.Expr { return api.Expr{Op: api.XName, Name: s} }
func term(s string) api.Expr { return api.Expr{Op: api.XTerm, Name: s} }

func of(op int, l ...api.Expr) api.Expr { return api.Expr{Op: op, L: l} }
func row(l ...api.Expr) api.Expr        { return of(api.XRow, l...) }
func alt(l ...api.Expr) api.Expr        { return of(api.XAlt, l...) }
func opt(e api.Expr) api.Expr           { return of(api.XOpt, e) }
func star(e api.Expr) api.Expr          { return of(api.XStar, e) }
func plus(e api.Expr) api.Expr          { return of(api.XPlus, e) }

func def(name string, e api.Expr) api.Def { return api.Def{Name: name, E: e} }
func text(defs ...api.Def) api.Text       { return api.Text{Defs: defs} }

// one: a text of one definition.
func one(e api.Expr) api.Text { return text(def("S", e)) }

// times: a list of n of the same.
func times(n int, e api.Expr) []api.Expr { return slices.Repeat([]api.Expr{e}, n) }

// nest puts n of a kind around an expression.
func nest(n, op int, e api.Expr) api.Expr {
	for range n {
		e = of(op, e)
	}
	return e
}

func brief(x any) string {
	s := fmt.Sprint(x)
	if len(s) > 200 {
		return s[:200] + ".."
	}
	return s
}

func wantPrint(t *testing.T, x api.Text, want string) {
	t.Helper()
	if f := Check(x); f != (api.Fault{}) {
		t.Errorf("Check(%s): fault %v", brief(x), f)
	}
	if got, f := Print(x); got != want || f != (api.Fault{}) {
		t.Errorf("Print(%s): %q, fault %v, want %q", brief(x), brief(got), f, brief(want))
	}
}

// wantExpr holds what stands between `S = ` and `;`.
func wantExpr(t *testing.T, e api.Expr, want string) {
	t.Helper()
	wantPrint(t, one(e), "S = "+want+";\n")
}

func wantFault(t *testing.T, x api.Text, code, at int) {
	t.Helper()
	want := api.Fault{Code: code, At: at}
	if f := Check(x); f != want {
		t.Errorf("Check(%s): fault %v, want %v", brief(x), f, want)
	}
	if got, f := Print(x); got != "" || f != want {
		t.Errorf("Print(%s): %q, fault %v, want %v", brief(x), brief(got), f, want)
	}
}

func wantFine(t *testing.T, x api.Text) {
	t.Helper()
	if f := Check(x); f != (api.Fault{}) {
		t.Errorf("Check(%s): fault %v", brief(x), f)
	}
	thereAndBack(t, x)
}

// thereAndBack: what Print tells is read as what was printed, and is printed as the same text again.
func thereAndBack(t *testing.T, x api.Text) {
	t.Helper()
	src, f := Print(x)
	if f != (api.Fault{}) {
		t.Errorf("Print(%s): fault %v", brief(x), f)
		return
	}
	back, f := syntax.Parse(src)
	if f != (api.Fault{}) || !syntax.Same(back, x) {
		t.Errorf("Parse(%q): %v, fault %v, want %v", brief(src), brief(back), f, brief(x))
	}
	if again, f := Print(back); again != src || f != (api.Fault{}) {
		t.Errorf("printed again: %q, fault %v, want %q", brief(again), f, brief(src))
	}
}

// P3.2: ordinary definitions.

func TestPrintOfTheExample(t *testing.T) {
	x, _ := syntax.Parse(`S=("a"|B)C;`)
	wantPrint(t, x, "S = (\"a\" | B) C;\n")
}

func TestPrintOfEachKind(t *testing.T) {
	wantExpr(t, name("T"), `T`)
	wantExpr(t, term("T"), `"T"`)
	wantExpr(t, row(name("A"), term("b")), `A "b"`)
	wantExpr(t, alt(name("A"), term("b")), `A | "b"`)
	wantExpr(t, opt(name("A")), `[A]`)
	wantExpr(t, star(name("A")), `{A}`)
	wantExpr(t, plus(name("A")), `<A>`)
	wantExpr(t, opt(star(plus(term("a")))), `[{<"a">}]`)
}

func TestPrintOfRows(t *testing.T) {
	a, b := name("A"), term("b")
	wantExpr(t, row(), ``)
	wantExpr(t, row(a, a), `A A`)
	wantExpr(t, row(b, b, a, b), `"b" "b" A "b"`)
	wantExpr(t, row(opt(a), star(b), plus(a)), `[A] {"b"} <A>`)
	wantExpr(t, opt(row()), `[]`)
	wantExpr(t, star(row(a, b)), `{A "b"}`)
	wantExpr(t, plus(row(a, b, a)), `<A "b" A>`)
}

func TestPrintOfAlts(t *testing.T) {
	a, b := name("A"), term("b")
	wantExpr(t, alt(a, b), `A | "b"`)
	wantExpr(t, alt(a, b, a, a), `A | "b" | A | A`)
	wantExpr(t, alt(row(), row()), ` | `)
	wantExpr(t, alt(row(), a), ` | A`)
	wantExpr(t, alt(a, row()), `A | `)
	wantExpr(t, alt(a, row(), b), `A |  | "b"`)
	wantExpr(t, alt(row(a, b), row(b, a, a)), `A "b" | "b" A A`)
	wantExpr(t, alt(opt(a), star(b)), `[A] | {"b"}`)
	wantExpr(t, opt(alt(a, b)), `[A | "b"]`)
	wantExpr(t, star(alt(row(), b)), `{ | "b"}`)
	wantExpr(t, plus(alt(row(a, b), b)), `<A "b" | "b">`)
}

func TestPrintOfRoundBrackets(t *testing.T) {
	a, b := name("A"), name("B")
	// A row or an alt in a row.
	wantExpr(t, row(row(), row()), `() ()`)
	wantExpr(t, row(row(a, b), a), `(A B) A`)
	wantExpr(t, row(a, row(a, b)), `A (A B)`)
	wantExpr(t, row(a, row(), b), `A () B`)
	wantExpr(t, row(alt(a, b), a), `(A | B) A`)
	wantExpr(t, row(a, alt(a, b), b), `A (A | B) B`)
	wantExpr(t, row(alt(row(), row()), row(row(), a)), `( | ) (() A)`)
	// An alt in an alt.
	wantExpr(t, alt(alt(a, b), a), `(A | B) | A`)
	wantExpr(t, alt(a, alt(b, alt(a, b))), `A | (B | (A | B))`)
	wantExpr(t, alt(row(a, b), alt(row(b, b), a)), `A B | (B B | A)`)
	// Nowhere else.
	wantExpr(t, alt(row(a, b), row(), row(b, b, b)), `A B |  | B B B`)
	wantExpr(t, row(opt(a), star(row(a, b)), plus(alt(a, b))), `[A] {A B} <A | B>`)
	wantExpr(t, alt(opt(a), star(row(a, b)), plus(alt(a, b))), `[A] | {A B} | <A | B>`)
	wantExpr(t, opt(opt(star(star(plus(plus(row(a, alt(a, b)))))))), `[[{{<<A (A | B)>>}}]]`)
	wantExpr(t, opt(alt(a, row(b, row(a, a)))), `[A | B (A A)]`)
}

func TestPrintOfTerminalsThatLookLikeSigns(t *testing.T) {
	for _, s := range strings.Split("= ; | ( ) [ ] { } < > # () // S=; |", " ") {
		wantExpr(t, term(s), `"`+s+`"`)
		wantFine(t, one(row(term(s), alt(term(s), name("A")), opt(term(s)))))
	}
	wantExpr(t, term(" "), `" "`)
	wantExpr(t, row(term("  "), term("# x")), `"  " "# x"`)
}

func TestPrintOfManyLines(t *testing.T) {
	wantPrint(t, text(def("B", term("b")), def("A", row()), def("B", name("A"))), "B = \"b\";\nA = ;\nB = A;\n")
	wantPrint(t, text(def("_", alt(row(), row())), def("long_name_12", opt(row()))), "_ =  | ;\nlong_name_12 = [];\n")
}

func TestPrintAsksForNoPlaces(t *testing.T) {
	for _, at := range []int{0, 1, -1, math.MaxInt, math.MinInt} {
		wantPrint(t, text(api.Def{Name: "S", At: at, E: name("A")}, api.Def{Name: "T", At: at, E: row()}), "S = A;\nT = ;\n")
	}
}

func TestPrintOfListsWithoutElements(t *testing.T) {
	for _, l := range [][]api.Expr{nil, {}} {
		wantExpr(t, api.Expr{Op: api.XRow, L: l}, ``)
		wantExpr(t, api.Expr{Op: api.XName, Name: "A", L: l}, `A`)
		wantExpr(t, api.Expr{Op: api.XTerm, Name: "A", L: l}, `"A"`)
		wantFault(t, one(api.Expr{Op: api.XAlt, L: l}), api.ErrForm, 0)
		wantFault(t, one(api.Expr{Op: api.XOpt, L: l}), api.ErrForm, 0)
	}
}

// P3.1: how many definitions.

func TestCheckOfNoDefinition(t *testing.T) {
	wantFault(t, api.Text{}, api.ErrNone, -1)
	wantFault(t, api.Text{Defs: []api.Def{}}, api.ErrNone, -1)
	wantFault(t, api.Text{Defs: []api.Def{def("S", name("A"))}[:0]}, api.ErrNone, -1)
}

func TestCheckOfManyDefinitions(t *testing.T) {
	all := slices.Repeat([]api.Def{def("S", row())}, api.MaxDefs)
	wantFine(t, text(all...))
	wantPrint(t, text(all...), strings.Repeat("S = ;\n", api.MaxDefs))
	wantFault(t, text(append(all, def("S", row()))...), api.ErrMany, -1)
	// That there are too many is told ahead of whatever is wrong with one of them.
	wantFault(t, text(make([]api.Def, api.MaxDefs+1)...), api.ErrMany, -1)
	wantFault(t, text(make([]api.Def, 100000)...), api.ErrMany, -1)
	wantFault(t, text(make([]api.Def, api.MaxDefs)...), api.ErrName, 0)
}

// P3.1: names of definitions.

func TestCheckOfNamesOfDefinitions(t *testing.T) {
	for _, s := range []string{"S", "_", "a1", "_9_", "Long_name_12"} {
		wantPrint(t, text(def(s, row())), s+" = ;\n")
	}
	for _, s := range []string{"", " ", "1", "1a", "a-b", "a b", "a ", "é", "a\x00", "long_name_013", strings.Repeat("a", 1<<20), `"a"`, "="} {
		wantFault(t, text(def(s, row())), api.ErrName, 0)
		wantFault(t, text(def("S", row()), def(s, name("A"))), api.ErrName, 1)
	}
	// Two definitions of one name may stand as a text.
	wantPrint(t, text(def("S", row()), def("S", row())), "S = ;\nS = ;\n")
}

// P3.1: how many parts.

func TestCheckOfManyParts(t *testing.T) {
	a := name("A")
	const n = api.MaxParts
	// Each of these has just so many parts as it tells.
	of := map[string]func(n int) api.Expr{
		"names in a row":     func(n int) api.Expr { return row(times(n, a)...) },
		"terminals in a row": func(n int) api.Expr { return row(times(n, term("a"))...) },
		"rows in a row":      func(n int) api.Expr { return row(times(n, row())...) },
		"empty rows":         func(n int) api.Expr { return alt(times(n+1, row())...) },
		"names in an alt":    func(n int) api.Expr { return alt(append(times(n/2, a), times(1+n%2, row())...)...) },
		"options":            func(n int) api.Expr { return row(times(n, opt(row()))...) },
		"repetitions":        func(n int) api.Expr { return row(append(times(n-20, star(row())), times(10, plus(a))...)...) },
		"alts in a row":      func(n int) api.Expr { return row(append(times(10, alt(a, row())), times(n-30, a)...)...) },
		"alts in an alt":     func(n int) api.Expr { return alt(append(times(10, alt(row(), row())), times(n-29, row())...)...) },
		"rows in an alt":     func(n int) api.Expr { return alt(append(times(10, row(a, a)), times(n-29, row())...)...) },
		"an alt in brackets": func(n int) api.Expr { return opt(alt(times(n, row())...)) },
		"a row in brackets":  func(n int) api.Expr { return star(row(times(n-1, a)...)) },
		"an option and more": func(n int) api.Expr { return row(opt(a), row(times(n-3, a)...)) },
	}
	for what, e := range of {
		wantFine(t, one(e(n-1)))
		wantFine(t, one(e(n)))
		wantFault(t, one(e(n+1)), api.ErrMany, 0)
		wantFault(t, one(e(2*n)), api.ErrMany, 0)
		wantFault(t, text(def("S", a), def("T", e(n)), def("U", e(n+1)), def("V", e(n+1))), api.ErrMany, 2)
		if t.Failed() {
			t.Fatal(what)
		}
	}
}

func TestCheckCountsThePartsOfWhatIsMalformed(t *testing.T) {
	a := name("A")
	const n = api.MaxParts
	for _, op := range []int{0, -1, api.XPlus + 1, 99, math.MinInt, math.MaxInt, api.XTerm, api.XName, api.XOpt, api.XStar, api.XPlus} {
		// One part, with its parts: no more than that, however many they are.
		wantFault(t, one(of(op, times(n-1, a)...)), api.ErrForm, 0)
		wantFault(t, one(of(op, times(n, a)...)), api.ErrMany, 0)
		wantFault(t, one(row(times(n, of(op))...)), noneCode(op), 0)
		wantFault(t, one(row(times(n+1, of(op))...)), api.ErrMany, 0)
		wantFault(t, one(row(times(n/3, of(op, a, a))...)), api.ErrForm, 0)
		wantFault(t, one(row(append(times(n/3, of(op, a, a)), a)...)), api.ErrMany, 0)
		// No round brackets in it.
		wantFault(t, one(of(op, row(times(n-1, a)...), row(), alt(row()))), api.ErrForm, 0)
		wantFault(t, one(of(op, row(times(n, a)...), row())), api.ErrMany, 0)
		wantFault(t, one(of(op, alt(times(n, row())...), row())), api.ErrForm, 0)
		wantFault(t, one(of(op, alt(times(n+1, row())...), row())), api.ErrMany, 0)
	}
	// A row of one part has no part of its own, an alt of one or none no |.
	wantFault(t, one(row(row(times(n-1, a)...))), api.ErrForm, 0)
	wantFault(t, one(row(row(times(n, a)...))), api.ErrMany, 0)
	wantFault(t, one(alt(row(times(n, a)...))), api.ErrForm, 0)
	wantFault(t, one(alt(row(times(n+1, a)...))), api.ErrMany, 0)
	wantFault(t, one(row(times(n, alt())...)), api.ErrForm, 0)
	wantFault(t, one(row(times(n+1, alt())...)), api.ErrMany, 0)
	wantFault(t, one(opt(alt(append(times(n/2, a), row(), alt())...))), api.ErrMany, 0)
}

// noneCode: what is told of an expression of a kind without parts and without a name.
func noneCode(op int) int {
	if op == api.XTerm || op == api.XName {
		return api.ErrName
	}
	return api.ErrForm
}

// P3.1: how many brackets.

func TestCheckOfManyBrackets(t *testing.T) {
	a := name("A")
	for _, op := range []int{api.XOpt, api.XStar, api.XPlus} {
		wantFine(t, one(nest(api.MaxOpen, op, a)))
		wantFault(t, one(nest(api.MaxOpen+1, op, a)), api.ErrDeep, 0)
		wantFine(t, one(nest(api.MaxOpen-1, op, row(a, row(a, a)))))
		wantFault(t, one(nest(api.MaxOpen, op, row(a, row(a, a)))), api.ErrDeep, 0)
		wantFault(t, one(nest(api.MaxOpen, op, row(row(), a))), api.ErrDeep, 0)
		wantFine(t, one(nest(api.MaxOpen-1, op, row(a, alt(a, a)))))
		wantFault(t, one(nest(api.MaxOpen, op, row(a, alt(a, a)))), api.ErrDeep, 0)
		wantFine(t, one(nest(api.MaxOpen-1, op, alt(alt(a, a), a))))
		wantFault(t, one(nest(api.MaxOpen, op, alt(alt(a, a), a))), api.ErrDeep, 0)
		wantFine(t, one(nest(api.MaxOpen, op, alt(row(a, a), a))))
		wantFine(t, one(nest(api.MaxOpen, op, alt(a, row(), a, row(a, a)))))
		wantFault(t, text(def("S", nest(api.MaxOpen, op, a)), def("T", nest(api.MaxOpen+1, op, a))), api.ErrDeep, 1)
	}
	// Brackets that are closed again do not count.
	wantFine(t, one(row(nest(api.MaxOpen-22, api.XOpt, a), nest(api.MaxOpen, api.XStar, row()))))
	wantFine(t, text(def("S", nest(api.MaxOpen, api.XOpt, a)), def("T", nest(api.MaxOpen, api.XOpt, a))))
	wantFault(t, one(row(a, nest(api.MaxOpen+1, api.XStar, row()), a)), api.ErrDeep, 0)
}

func TestCheckOfManyRoundBrackets(t *testing.T) {
	a := name("A")
	wrap := func(n int, e api.Expr, around func(api.Expr) api.Expr) api.Expr {
		for range n {
			e = around(e)
		}
		return e
	}
	// A row of one alone is of no form, but may be counted without more parts than brackets.
	rowOf := func(e api.Expr) api.Expr { return row(e) }
	altOf := func(e api.Expr) api.Expr { return alt(e) }
	both := func(e api.Expr) api.Expr { return row(alt(e)) }
	const n = api.MaxOpen
	wantFault(t, one(wrap(n, row(a), rowOf)), api.ErrForm, 0)
	wantFault(t, one(wrap(n+1, row(a), rowOf)), api.ErrDeep, 0)
	wantFault(t, one(wrap(n, alt(a), altOf)), api.ErrForm, 0)
	wantFault(t, one(wrap(n+1, alt(a), altOf)), api.ErrDeep, 0)
	wantFault(t, one(wrap(n, row(), both)), api.ErrForm, 0)
	wantFault(t, one(wrap(n+1, row(), both)), api.ErrDeep, 0)
	// Those that are well formed have two parts a bracket; with others around them they are as deep as may be.
	rowsOf := func(e api.Expr) api.Expr { return row(a, e) }
	altsOf := func(e api.Expr) api.Expr { return alt(e, row()) }
	wantFine(t, one(nest(n-19, api.XStar, wrap(19, row(), rowsOf))))
	wantFault(t, one(nest(n-18, api.XStar, wrap(19, row(), rowsOf))), api.ErrDeep, 0)
	wantFine(t, one(nest(n-18, api.XStar, wrap(19, row(), altsOf))))
	wantFault(t, one(nest(n-17, api.XStar, wrap(19, row(), altsOf))), api.ErrDeep, 0)
}

func TestCheckCountsTheBracketsOfWhatIsMalformed(t *testing.T) {
	a := name("A")
	const n = api.MaxOpen
	for _, op := range []int{api.XPlus + 1, 99, math.MaxInt} {
		wantFault(t, one(nest(n, op, a)), api.ErrForm, 0)
		wantFault(t, one(nest(n+1, op, a)), api.ErrDeep, 0)
		wantFault(t, one(nest(n, op, of(op))), api.ErrForm, 0) // it has nothing that brackets would stand around
		wantFault(t, one(of(op, row(), nest(n-1, op, a), a)), api.ErrForm, 0)
		wantFault(t, one(of(op, row(), nest(n, op, a), a)), api.ErrDeep, 0)
		wantFault(t, one(nest(n-1, api.XOpt, of(op, a))), api.ErrForm, 0)
		wantFault(t, one(nest(n, api.XOpt, of(op, a))), api.ErrDeep, 0)
		wantFault(t, one(nest(n, op, alt(row(), row(a, a)))), api.ErrForm, 0)
	}
	for _, op := range []int{0, -1, math.MinInt, api.XTerm, api.XName} {
		wantFault(t, one(nest(n+10, op, a)), api.ErrForm, 0)
		wantFault(t, one(nest(10, op, nest(n, api.XOpt, a))), api.ErrForm, 0)
		wantFault(t, one(nest(10, op, nest(n+1, api.XOpt, a))), api.ErrDeep, 0)
		wantFault(t, one(nest(n, api.XOpt, nest(10, op, alt(row(), row(a, a))))), api.ErrForm, 0)
	}
	for _, op := range []int{api.XOpt, api.XStar, api.XPlus} {
		wantFault(t, one(nest(n, op, of(op))), api.ErrForm, 0)
		wantFault(t, one(nest(n-1, op, of(op, row(), row(), row()))), api.ErrForm, 0)
		wantFault(t, one(nest(n, op, of(op, row(), row(), row()))), api.ErrDeep, 0)
		wantFault(t, one(of(op, nest(n, op, a), a)), api.ErrDeep, 0)
		wantFault(t, one(of(op, a, nest(n, op, a))), api.ErrDeep, 0)
	}
}

// P3.1: forms and names of expressions.

func TestCheckOfForms(t *testing.T) {
	a := name("A")
	bad := []api.Expr{
		{}, {Op: -1}, {Op: api.XPlus + 1}, {Op: math.MaxInt}, {Op: math.MinInt},
		{Name: "A"}, {L: []api.Expr{a}}, {Op: 8, Name: "A"}, {Op: 8, L: []api.Expr{a}},
		{Op: api.XTerm, Name: "A", L: []api.Expr{a}}, {Op: api.XName, Name: "A", L: []api.Expr{a, a}},
		{Op: api.XTerm, L: []api.Expr{a}}, {Op: api.XName, Name: "1", L: []api.Expr{a}},
		{Op: api.XRow, Name: "A"}, {Op: api.XRow, Name: "A", L: []api.Expr{a, a}},
		{Op: api.XAlt, Name: "A", L: []api.Expr{a, a}}, {Op: api.XOpt, Name: "A", L: []api.Expr{a}},
		{Op: api.XStar, Name: "1", L: []api.Expr{a}}, {Op: api.XPlus, Name: " ", L: []api.Expr{a}},
		row(a), row(row()), alt(), alt(a), alt(alt(a, a)),
		of(api.XOpt), of(api.XOpt, a, a), of(api.XStar), of(api.XStar, a, a), of(api.XPlus), of(api.XPlus, a, a, a),
	}
	for _, e := range bad {
		wantFaultAnywhere(t, e, api.ErrForm)
	}
}

func TestCheckOfNames(t *testing.T) {
	for _, s := range []string{"", "1", "a-b", " a", "long_name_013", "é", "a\n"} {
		wantFaultAnywhere(t, name(s), api.ErrName)
	}
	for _, s := range []string{"", "\"", "a\"b", "a\nb", "\x1f", "\x7f", "é", "thirteen byte", strings.Repeat("a", 1<<20)} {
		wantFaultAnywhere(t, term(s), api.ErrName)
	}
	for _, s := range []string{"1", "a-b", " a", "~", "a b c d e f "} {
		wantExpr(t, term(s), `"`+s+`"`)
	}
}

// wantFaultAnywhere puts a wrong expression at all kinds of places.
func wantFaultAnywhere(t *testing.T, e api.Expr, code int) {
	t.Helper()
	a := name("A")
	for _, x := range []api.Expr{e, row(a, e), row(e, a), row(a, e, a), alt(a, e), alt(row(a, e), a), opt(e), star(e), plus(e), row(a, opt(alt(row(), star(plus(row(a, a, e))))))} {
		wantFault(t, one(x), code, 0)
		wantFault(t, text(def("S", a), def("T", row()), def("U", x), def("V", a)), code, 2)
	}
}

// P3.1: the first fault where several are so.

func TestCheckTellsTheFirstFault(t *testing.T) {
	a := name("A")
	deep := nest(api.MaxOpen+1, api.XOpt, a)
	large := row(times(api.MaxParts+1, api.Expr{})...)
	// Within a definition.
	wantFault(t, text(def("1", large)), api.ErrName, 0)
	wantFault(t, text(def("1", deep)), api.ErrName, 0)
	wantFault(t, text(def("1", api.Expr{})), api.ErrName, 0)
	wantFault(t, one(row(append(times(api.MaxParts, a), deep)...)), api.ErrMany, 0)
	wantFault(t, one(row(deep, api.Expr{}, name("1"))), api.ErrDeep, 0)
	wantFault(t, one(row(api.Expr{}, name("1"), deep)), api.ErrDeep, 0)
	wantFault(t, one(row(name("1"), deep)), api.ErrDeep, 0)
	// Among its expressions: each ahead of its parts, from the front.
	wantFault(t, one(row(name("1"), api.Expr{})), api.ErrName, 0)
	wantFault(t, one(row(api.Expr{}, name("1"))), api.ErrForm, 0)
	wantFault(t, one(row(row(a, name("1")), api.Expr{})), api.ErrName, 0)
	wantFault(t, one(row(opt(row(a, api.Expr{})), term(""))), api.ErrForm, 0)
	wantFault(t, one(of(api.XOpt, name("1"), a)), api.ErrForm, 0)
	wantFault(t, one(row(name("1"))), api.ErrForm, 0)
	wantFault(t, one(api.Expr{Op: api.XTerm, L: []api.Expr{name("1")}}), api.ErrForm, 0)
	// Among definitions: all of one ahead of the next.
	wantFault(t, text(def("S", name("1")), def("1", large)), api.ErrName, 0)
	wantFault(t, text(def("S", api.Expr{}), def("1", large)), api.ErrForm, 0)
	wantFault(t, text(def("S", deep), def("T", large)), api.ErrDeep, 0)
	wantFault(t, text(def("S", large), def("1", a)), api.ErrMany, 0)
	wantFault(t, text(def("S", a), def("T", large), def("1", a)), api.ErrMany, 1)
	// The length of the text is asked last.
	for code, d := range map[int]api.Def{api.ErrName: def("1", a), api.ErrMany: def("S", large), api.ErrDeep: def("S", deep), api.ErrForm: def("S", api.Expr{})} {
		x := longText(2 * api.MaxText)
		x.Defs[api.MaxDefs-1] = d
		wantFault(t, x, code, api.MaxDefs-1)
	}
}

// P3.1: the length of the text.

// longText makes MaxDefs definitions that are printed as n bytes: as short as they may be at first, then with longer terminals from the front on.
func longText(n int) api.Text {
	var out api.Text
	n -= api.MaxDefs * len("S = ;\n")
	n -= api.MaxDefs * (api.MaxParts*len(`"a" `) - 1)
	for range api.MaxDefs {
		l := times(api.MaxParts, term("a"))
		for i := range l {
			more := min(n, api.MaxName-1)
			l[i].Name += strings.Repeat("x", more)
			n -= more
		}
		out.Defs = append(out.Defs, def("S", row(l...)))
	}
	return out
}

func TestCheckOfLongTexts(t *testing.T) {
	for n := api.MaxText - 40; n <= api.MaxText; n++ {
		x := longTextOf(t, n)
		if src, f := Print(x); len(src) != n || f != (api.Fault{}) {
			t.Fatalf("a text of %d bytes: %d, fault %v", n, len(src), f)
		}
		wantFine(t, x)
	}
	for n := api.MaxText + 1; n < api.MaxText+40; n++ {
		wantFault(t, longTextOf(t, n), api.ErrMany, -1)
	}
	most := slices.Repeat([]api.Def{def("long_name_12", row(times(api.MaxParts, term("twelve bytes"))...))}, api.MaxDefs)
	wantFault(t, text(most...), api.ErrMany, -1)
}

// longTextOf holds the length of a text against the second printer of the tests.
func longTextOf(t *testing.T, n int) api.Text {
	t.Helper()
	x := longText(n)
	if src := told(x); len(src) != n {
		t.Fatalf("a text of %d bytes was to be made, and has %d", n, len(src))
	}
	return x
}

// Texts made up, held against a second printer and a second judge.

// told prints a text of which nothing is wrong, each kind by itself.
func told(x api.Text) (out string) {
	for _, d := range x.Defs {
		out += d.Name + " = " + toldExpr(d.E) + ";\n"
	}
	return out
}

func toldExpr(e api.Expr) string {
	var l []string
	for _, x := range e.L {
		s := toldExpr(x)
		if e.Op == api.XRow && (x.Op == api.XRow || x.Op == api.XAlt) || e.Op == api.XAlt && x.Op == api.XAlt {
			s = "(" + s + ")"
		}
		l = append(l, s)
	}
	switch e.Op {
	case api.XName:
		return e.Name
	case api.XTerm:
		return `"` + e.Name + `"`
	case api.XAlt:
		return strings.Join(l, " | ")
	case api.XOpt:
		return "[" + l[0] + "]"
	case api.XStar:
		return "{" + l[0] + "}"
	case api.XPlus:
		return "<" + l[0] + ">"
	}
	return strings.Join(l, " ")
}

// outline writes an expression of whatever form as signs: x a part that is no bracket, ( and ) round brackets, [ and ] all others. A bracket that stands around nothing, or around several things, is one part all the same.
func outline(e api.Expr) string {
	var l []string
	for _, x := range e.L {
		s := outline(x)
		if e.Op == api.XRow && (x.Op == api.XRow || x.Op == api.XAlt) || e.Op == api.XAlt && x.Op == api.XAlt {
			s = "x(" + s + ")"
		}
		if e.Op >= api.XOpt {
			s = "(" + s + ")"
		}
		l = append(l, s)
	}
	switch e.Op {
	case api.XRow:
		return strings.Join(l, "")
	case api.XAlt:
		return strings.Join(l, "x")
	}
	return "x" + strings.Join(l, "")
}

func deepest(s string) (most int) {
	n := 0
	for _, b := range s {
		switch b {
		case '(':
			n++
		case ')':
			n--
		}
		most = max(most, n)
	}
	return most
}

// wrong lists the codes of all that is wrong with an expression and its parts, in order.
func wrong(e api.Expr) (codes []int) {
	n := len(e.L)
	named := e.Op == api.XTerm || e.Op == api.XName
	if e.Op < 1 || e.Op > 7 || named && n > 0 || !named && e.Name != "" || e.Op == api.XRow && n == 1 || e.Op == api.XAlt && n < 2 || e.Op >= api.XOpt && n != 1 {
		codes = append(codes, api.ErrForm)
	}
	if e.Op == api.XName && !token.Name(e.Name) || e.Op == api.XTerm && !token.Term(e.Name) {
		codes = append(codes, api.ErrName)
	}
	for _, x := range e.L {
		codes = append(codes, wrong(x)...)
	}
	return codes
}

// judge tells Check's fault.
func judge(x api.Text) api.Fault {
	if len(x.Defs) == 0 {
		return api.Fault{Code: api.ErrNone, At: -1}
	}
	if len(x.Defs) > 16 {
		return api.Fault{Code: api.ErrMany, At: -1}
	}
	for i, d := range x.Defs {
		var codes []int
		if !token.Name(d.Name) {
			codes = append(codes, api.ErrName)
		}
		o := outline(d.E)
		if strings.Count(o, "x") > 60 {
			codes = append(codes, api.ErrMany)
		}
		if deepest(o) > 40 {
			codes = append(codes, api.ErrDeep)
		}
		if codes = append(codes, wrong(d.E)...); len(codes) > 0 {
			return api.Fault{Code: codes[0], At: i}
		}
	}
	if len(told(x)) > 6000 {
		return api.Fault{Code: api.ErrMany, At: -1}
	}
	return api.Fault{}
}

func holdAgainstJudge(t *testing.T, x api.Text) api.Fault {
	t.Helper()
	f := judge(x)
	if f.Code != 0 {
		wantFault(t, x, f.Code, f.At)
		return f
	}
	wantPrint(t, x, told(x))
	thereAndBack(t, x)
	return f
}

// maker makes up texts: fine ones, and, by wild, ones that are not.
type maker struct {
	*rand.Rand
	wild int // of a hundred expressions, how many are malformed
}

func (m *maker) among(l ...string) string { return l[m.Intn(len(l))] }

func (m *maker) list(n, deep int) (l []api.Expr) {
	for range n {
		l = append(l, m.expr(deep))
	}
	return l
}

func (m *maker) expr(deep int) api.Expr {
	if m.Intn(100) < m.wild {
		e := api.Expr{Op: m.Intn(14) - 3, L: m.list(m.Intn(3)*min(deep, 1), deep-1)}
		if m.Intn(3) == 0 {
			e.Name = m.among("A", "1", "", "a b", "\"")
		}
		return e
	}
	kind := 1 + m.Intn(7)
	if deep == 0 {
		kind = 1 + m.Intn(2)
	}
	switch kind {
	case api.XName:
		return name(m.among("A", "B", "_9", "long_name_12"))
	case api.XTerm:
		return term(m.among("a", "b", "|", "=", "(", ")", "# ;", "twelve bytes"))
	case api.XRow:
		return row(m.list([]int{0, 2, 2, 3}[m.Intn(4)], deep-1)...)
	case api.XAlt:
		return alt(m.list(2+m.Intn(2), deep-1)...)
	}
	return of(kind, m.expr(deep-1))
}

func (m *maker) text(deep int) (x api.Text) {
	for range 1 + m.Intn(3) {
		d := api.Def{Name: m.among("S", "T", "long_name_12"), At: m.Intn(3), E: m.expr(m.Intn(1 + deep))}
		if m.Intn(100) < m.wild {
			d.Name = m.among("", "1", "a b", "long_name_013")
		}
		x.Defs = append(x.Defs, d)
	}
	return x
}

func TestTextsMadeUp(t *testing.T) {
	seen := map[api.Fault]int{}
	for _, wild := range []int{0, 0, 3, 30} {
		m := &maker{Rand: rand.New(rand.NewSource(int64(5 + wild))), wild: wild}
		for range 4000 {
			seen[holdAgainstJudge(t, m.text(4+m.Intn(5)))]++
			if t.Failed() {
				return
			}
		}
	}
	for _, code := range []int{0, api.ErrName, api.ErrMany, api.ErrForm} {
		if seen[api.Fault{Code: code}] < 10 {
			t.Errorf("code %d was told %d times alone", code, seen[api.Fault{Code: code}])
		}
	}
}

// storey puts one more kind around an expression: any one, or such that it is well formed.
func (m *maker) storey(e api.Expr, fine bool) api.Expr {
	op := m.Intn(14) - 3
	if fine {
		op = api.XRow + m.Intn(5)
	}
	e = of(op, e)
	if fine && op <= api.XAlt || !fine && m.Intn(5) == 0 {
		e.L = append(e.L, m.expr(0))
	}
	if m.Intn(2) == 0 {
		slices.Reverse(e.L)
	}
	return e
}

// Towers of kinds, many of them at the edges of MaxParts and MaxOpen.
func TestTowersMadeUp(t *testing.T) {
	seen := map[int]int{}
	m := &maker{Rand: rand.New(rand.NewSource(8))}
	for i := range 20000 {
		e := m.expr(1)
		for range 20 + m.Intn(40) {
			e = m.storey(e, i%2 == 0)
		}
		seen[holdAgainstJudge(t, one(e)).Code]++
		if t.Failed() {
			return
		}
	}
	for _, code := range []int{0, api.ErrMany, api.ErrDeep, api.ErrForm} {
		if seen[code] < 5 {
			t.Errorf("code %d was told %d times alone", code, seen[code])
		}
	}
}

// unbracketed answers each text that src is without one pair of round brackets.
func unbracketed(src string) (out []string) {
	var starts []int
	quoted := false
	for i, b := range src {
		switch {
		case b == '"':
			quoted = !quoted
		case quoted:
		case b == '(':
			starts = append(starts, i)
		case b == ')':
			start := starts[len(starts)-1]
			starts = starts[:len(starts)-1]
			out = append(out, src[:start]+" "+src[start+1:i]+" "+src[i+1:])
		}
	}
	return out
}

// No pair of round brackets may be left out: without it, it is another text.
func TestPrintTellsNoBracketsInVain(t *testing.T) {
	m := &maker{Rand: rand.New(rand.NewSource(9))}
	pairs := 0
	for range 5000 {
		x := m.text(5)
		src, _ := Print(x)
		for _, less := range unbracketed(src) {
			pairs++
			if y, f := syntax.Parse(less); f != (api.Fault{}) || syntax.Same(x, y) {
				t.Fatalf("Print(%v): %q, and %q is the same, fault %v", x, src, less, f)
			}
		}
	}
	if pairs < 1000 {
		t.Errorf("%d pairs of round brackets alone", pairs)
	}
}

func FuzzPrint(f *testing.F) {
	f.Add(`S=("a"|B)C;`)
	f.Add("S = ((S S) S | S) | S; T=[{<S|>}] ();")
	f.Fuzz(func(t *testing.T, src string) {
		x, fault := syntax.Parse(src)
		if fault.Code != 0 {
			return
		}
		// What was read may be longer when it is printed, but nothing else can be wrong with it.
		if fault = judge(x); fault != (api.Fault{}) && fault != (api.Fault{Code: api.ErrMany, At: -1}) {
			t.Errorf("the judge of what Parse(%q) tells: %v", src, fault)
		}
		holdAgainstJudge(t, x)
	})
}

// What holds everywhere: what is handed in stays.

// roomy lays the lists of an expression anew, with something behind the length of each.
func roomy(e api.Expr) api.Expr {
	l := make([]api.Expr, 0, len(e.L)+2)
	for _, x := range e.L {
		l = append(l, roomy(x))
	}
	l[:cap(l)][len(l)] = name("Hidden")
	return api.Expr{Op: e.Op, Name: e.Name, L: l}
}

func roomyText(x api.Text) api.Text {
	defs := make([]api.Def, 0, len(x.Defs)+2)
	for _, d := range x.Defs {
		defs = append(defs, api.Def{Name: d.Name, At: d.At, E: roomy(d.E)})
	}
	defs[:cap(defs)][len(defs)] = def("Hidden", name("Hidden"))
	return api.Text{Defs: defs}
}

// memory tells all that lies in the lists of a text, behind their lengths, too.
func memory(x api.Text) (out []any) {
	var tell func(l []api.Expr)
	tell = func(l []api.Expr) {
		out = append(out, len(l), cap(l))
		for _, e := range l[:cap(l)] {
			out = append(out, e.Op, e.Name)
			tell(e.L)
		}
	}
	for _, d := range x.Defs[:cap(x.Defs)] {
		out = append(out, d.Name, d.At)
		tell([]api.Expr{d.E})
	}
	return out
}

func TestNothingIsChanged(t *testing.T) {
	m := &maker{Rand: rand.New(rand.NewSource(10)), wild: 2}
	for range 500 {
		x := roomyText(m.text(5))
		before := memory(x)
		Check(x)
		Print(x)
		if !reflect.DeepEqual(memory(x), before) {
			t.Fatalf("it was changed: %v", x)
		}
		holdAgainstJudge(t, x)
	}
}

func TestNothingBehindAListIsRead(t *testing.T) {
	with := func(odd api.Expr) api.Text {
		l := []api.Expr{name("A"), name("B"), odd}[:2]
		return api.Text{Defs: []api.Def{def("S", row(l...)), def("T", alt(row([]api.Expr{odd}[:0]...), name("A"))), def("1", odd)}[:2]}
	}
	wantPrint(t, with(api.Expr{}), "S = A B;\nT =  | A;\n")
	wantPrint(t, with(nest(100, api.XOpt, name("1"))), "S = A B;\nT =  | A;\n")
}

func TestPrintKeepsNothing(t *testing.T) {
	l := []api.Expr{name("A"), term("b")}
	x := one(row(l...))
	got, _ := Print(x)
	l[0], l[1] = api.Expr{}, api.Expr{}
	x.Defs[0] = api.Def{}
	if want := "S = A \"b\";\n"; got != want {
		t.Errorf("what was printed became %q", got)
	}
	wantFault(t, x, api.ErrName, 0)
	x.Defs[0] = def("S", name("B"))
	wantPrint(t, x, "S = B;\n")
}

// P1: whatever it is given.

func TestOfDeepExpressions(t *testing.T) {
	for op := -1; op <= 9; op++ {
		wantFault(t, one(nest(1<<16-1, op, name("A"))), api.ErrMany, 0)
	}
	e := row()
	for range 1 << 15 {
		e = row(alt(e))
	}
	wantFault(t, one(e), api.ErrMany, 0)
}

func TestOfWideExpressions(t *testing.T) {
	const n = 1 << 17
	for op := -1; op <= 9; op++ {
		wantFault(t, one(of(op, times(n, name("A"))...)), api.ErrMany, 0)
		// Empty rows have brackets in a row, and | between them in an alt; elsewhere they have no parts.
		code := api.ErrForm
		if op == api.XRow || op == api.XAlt {
			code = api.ErrMany
		}
		wantFault(t, one(of(op, times(n, row())...)), code, 0)
	}
}

// Expressions whose parts share their memory are larger than what they are made of; some even hold themselves.
func TestOfExpressionsThatShareMemory(t *testing.T) {
	for op := -1; op <= 9; op++ {
		e := name("A")
		for range 200 {
			e = of(op, e, e)
		}
		wantFault(t, one(e), api.ErrMany, 0)
		round := make([]api.Expr, 2)
		round[0], round[1] = of(op, round...), of(op, round...)
		wantFault(t, one(round[0]), api.ErrMany, 0)
		turns := make([]api.Expr, 1)
		turns[0] = alt(of(op, turns...))
		wantFault(t, one(turns[0]), api.ErrMany, 0)
	}
}
