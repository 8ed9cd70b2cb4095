package syntax

import (
	"fmt"
	"math/rand"
	"reflect"
	"slices"
	"strings"
	"testing"

	"graftwork/api"
	"graftwork/token"
)

func name(s string) api.Expr { return api.Expr{Op: api.XName, Name: s} }
func term(s string) api.Expr { return api.Expr{Op: api.XTerm, Name: s} }

func of(op int, l ...api.Expr) api.Expr { return api.Expr{Op: op, L: l} }
func row(l ...api.Expr) api.Expr        { return of(api.XRow, l...) }
func alt(l ...api.Expr) api.Expr        { return of(api.XAlt, l...) }

func def(at int, name string, e api.Expr) api.Def { return api.Def{Name: name, At: at, E: e} }

// short keeps what a test tells of a long text readable.
func short(s string) string {
	if len(s) > 60 {
		return s[:60] + ".."
	}
	return s
}

// plain makes lists without elements nil, as they are the same.
func plain(e api.Expr) api.Expr {
	var l []api.Expr
	for _, x := range e.L {
		l = append(l, plain(x))
	}
	return api.Expr{Op: e.Op, Name: e.Name, L: l}
}

func plainText(t api.Text) api.Text {
	var out api.Text
	for _, d := range t.Defs {
		out.Defs = append(out.Defs, api.Def{Name: d.Name, At: d.At, E: plain(d.E)})
	}
	return out
}

func wantDefs(t *testing.T, src string, want ...api.Def) {
	t.Helper()
	got, f := Parse(src)
	if f != (api.Fault{}) {
		t.Errorf("Parse(%q): fault %v", short(src), f)
		return
	}
	if !reflect.DeepEqual(plainText(got), plainText(api.Text{Defs: want})) {
		t.Errorf("Parse(%q): %v, want %v", short(src), got.Defs, want)
	}
}

// wantExpr holds the expression of the one definition `S = src;` against another one.
func wantExpr(t *testing.T, src string, want api.Expr) {
	t.Helper()
	wantDefs(t, "S = "+src+";", def(0, "S", want))
}

func wantFault(t *testing.T, src string, code, at int) {
	t.Helper()
	got, f := Parse(src)
	if want := (api.Fault{Code: code, At: at}); f != want {
		t.Errorf("Parse(%q): fault %v, want %v", short(src), f, want)
	}
	if got.Defs != nil {
		t.Errorf("Parse(%q): %v beside a fault", short(src), got)
	}
}

func mustParse(t *testing.T, src string) api.Text {
	t.Helper()
	got, f := Parse(src)
	if f != (api.Fault{}) {
		t.Fatalf("Parse(%q): fault %v", short(src), f)
	}
	return got
}

// P2.1: ordinary texts.

func TestParseOfTheExample(t *testing.T) {
	wantExpr(t, `"a" S "b" | `, alt(row(term("a"), name("S"), term("b")), row()))
}

func TestParseOfEachKind(t *testing.T) {
	wantExpr(t, `T`, name("T"))
	wantExpr(t, `"T"`, term("T"))
	wantExpr(t, `A "b"`, row(name("A"), term("b")))
	wantExpr(t, `A | "b"`, alt(name("A"), term("b")))
	wantExpr(t, `(A)`, name("A"))
	wantExpr(t, `[A]`, of(api.XOpt, name("A")))
	wantExpr(t, `{A}`, of(api.XStar, name("A")))
	wantExpr(t, `<A>`, of(api.XPlus, name("A")))
}

func TestParseOfRows(t *testing.T) {
	wantExpr(t, ``, row())
	wantExpr(t, `A`, name("A"))
	wantExpr(t, `A B`, row(name("A"), name("B")))
	wantExpr(t, `A A A A`, row(name("A"), name("A"), name("A"), name("A")))
	wantExpr(t, `"a" "b""c"`, row(term("a"), term("b"), term("c")))
	wantExpr(t, `[A]{B}`, row(of(api.XOpt, name("A")), of(api.XStar, name("B"))))
}

func TestParseOfAlts(t *testing.T) {
	wantExpr(t, `A|B`, alt(name("A"), name("B")))
	wantExpr(t, `A|B|C`, alt(name("A"), name("B"), name("C")))
	wantExpr(t, `A B|C D`, alt(row(name("A"), name("B")), row(name("C"), name("D"))))
	wantExpr(t, `|`, alt(row(), row()))
	wantExpr(t, `|A`, alt(row(), name("A")))
	wantExpr(t, `A|`, alt(name("A"), row()))
	wantExpr(t, `A||B`, alt(name("A"), row(), name("B")))
	wantExpr(t, `||`, alt(row(), row(), row()))
}

func TestParseOfRoundBrackets(t *testing.T) {
	wantExpr(t, `()`, row())
	wantExpr(t, `((("a")))`, term("a"))
	wantExpr(t, `(A B)`, row(name("A"), name("B")))
	wantExpr(t, `(A B) C`, row(row(name("A"), name("B")), name("C")))
	wantExpr(t, `A (B C)`, row(name("A"), row(name("B"), name("C"))))
	wantExpr(t, `() ()`, row(row(), row()))
	wantExpr(t, `(A | B) C`, row(alt(name("A"), name("B")), name("C")))
	wantExpr(t, `(A | B) | C`, alt(alt(name("A"), name("B")), name("C")))
	wantExpr(t, `(A | B)`, alt(name("A"), name("B")))
	wantExpr(t, `([A])`, of(api.XOpt, name("A")))
	wantExpr(t, `(|)`, alt(row(), row()))
}

func TestParseOfOtherBrackets(t *testing.T) {
	for src, op := range map[string]int{"[%s]": api.XOpt, "{%s}": api.XStar, "<%s>": api.XPlus} {
		wantExpr(t, fmt.Sprintf(src, ``), of(op, row()))
		wantExpr(t, fmt.Sprintf(src, `"a"`), of(op, term("a")))
		wantExpr(t, fmt.Sprintf(src, `A B`), of(op, row(name("A"), name("B"))))
		wantExpr(t, fmt.Sprintf(src, `A|B C`), of(op, alt(name("A"), row(name("B"), name("C")))))
		wantExpr(t, fmt.Sprintf(src, `(A)`), of(op, name("A")))
		wantExpr(t, fmt.Sprintf(src, fmt.Sprintf(src, `A`)), of(op, of(op, name("A"))))
		wantExpr(t, fmt.Sprintf(src, `A`)+`|`+fmt.Sprintf(src, `B`), alt(of(op, name("A")), of(op, name("B"))))
	}
	wantExpr(t, `[{<(A)>}]`, of(api.XOpt, of(api.XStar, of(api.XPlus, name("A")))))
	wantExpr(t, `<A [B|{C}]>`, of(api.XPlus, row(name("A"), of(api.XOpt, alt(name("B"), of(api.XStar, name("C")))))))
}

func TestParseOfTerminalsThatLookLikeSigns(t *testing.T) {
	for _, s := range strings.Split("= ; | ( ) [ ] { } < >", " ") {
		wantExpr(t, `"`+s+`"`, term(s))
		wantExpr(t, `A "`+s+`" B`, row(name("A"), term(s), name("B")))
		wantExpr(t, `["`+s+`"]`, of(api.XOpt, term(s)))
	}
	wantFault(t, `S "=" ;`, api.ErrForm, 2)
	wantFault(t, `S = ";"`, api.ErrShort, 7)
	wantFault(t, `S = ( ")" ;`, api.ErrForm, 10)
	wantFault(t, `"S" = ;`, api.ErrForm, 0)
}

func TestParseTellsTheDefinitionsInOrder(t *testing.T) {
	wantDefs(t, `S=;`, def(0, "S", row()))
	wantDefs(t, `B = "b"; A = "a"; B = A;`, def(0, "B", term("b")), def(9, "A", term("a")), def(18, "B", name("A")))
}

func TestParseTellsWhereNamesBegin(t *testing.T) {
	wantDefs(t, " \t\r\n S = A ;  T_1=;", def(5, "S", name("A")), def(14, "T_1", row()))
	wantDefs(t, "# S = A;\nlong_name_12 = # x ;\n;#\nB=;#", def(9, "long_name_12", row()), def(33, "B", row()))
}

func TestParseOfBlanksAndRemarks(t *testing.T) {
	wantExpr(t, "A#|\"\nB", row(name("A"), name("B")))
	wantExpr(t, "A\n#x\n\t|\r\n[ # (\n B ]", alt(name("A"), of(api.XOpt, name("B"))))
	wantExpr(t, `AB`, name("AB"))
	wantExpr(t, `A"b"C`, row(name("A"), term("b"), name("C")))
}

// P2.1: the edges.

func TestParseOfAnEmptyText(t *testing.T) {
	wantFault(t, "", api.ErrShort, 0)
	wantFault(t, " ", api.ErrShort, 1)
	wantFault(t, "\r\n\t ", api.ErrShort, 4)
	wantFault(t, "#", api.ErrShort, 1)
	wantFault(t, "# S = ;", api.ErrShort, 7)
	wantFault(t, "# S = ;\n# T = ;\n", api.ErrShort, 16)
}

func TestParseOfManyDefinitions(t *testing.T) {
	var want []api.Def
	for i := range api.MaxDefs {
		want = append(want, def(i*5, "S", row()))
	}
	all := strings.Repeat("S = ;", api.MaxDefs)
	wantDefs(t, all, want...)
	wantDefs(t, all+" # S = ;", want...)
	wantFault(t, all+"S = ;", api.ErrMany, len(all))
	wantFault(t, all+" \n S = ;", api.ErrMany, len(all)+3)
	wantFault(t, all+"S", api.ErrMany, len(all))
	wantFault(t, all+" S = (", api.ErrMany, len(all)+1)
	// Any token behind the last definition is one too many, before it is asked whether it may begin one.
	for _, s := range strings.Split(`= ; | ( ) [ ] { } < > "a"`, " ") {
		wantFault(t, all+" "+s, api.ErrMany, len(all)+1)
	}
	one := strings.Repeat("S = ;", api.MaxDefs-1)
	wantFault(t, one+" S", api.ErrShort, len(one)+2)
	wantFault(t, one+" ;", api.ErrForm, len(one)+1)
}

func TestParseOfManyParts(t *testing.T) {
	const max = api.MaxParts
	// Each of them has as many parts as the number tells.
	for one, parts := range map[string]int{`A `: 1, `"a" `: 1, `|`: 1, `()`: 1, `[]`: 1, `{}`: 1, `<>`: 1, `[A]`: 2, `{"a"|}`: 3} {
		src := "S = " + strings.Repeat(one, max/parts)
		mustParse(t, src+";")
		mustParse(t, src+"; T = A;")
		for _, more := range strings.Split(`A "a" | ( [ { <`, " ") {
			wantFault(t, src+" "+more, api.ErrMany, len(src)+1)
			wantFault(t, src+" "+more+" = ) ;", api.ErrMany, len(src)+1)
		}
		for _, none := range strings.Split(`= ) ] } >`, " ") {
			wantFault(t, src+" "+none, api.ErrForm, len(src)+1)
		}
		wantFault(t, src, api.ErrShort, len(src))
	}
}

func TestParseCountsThePartsOfEachDefinition(t *testing.T) {
	full := "S = " + strings.Repeat("A ", api.MaxParts) + ";"
	mustParse(t, strings.Repeat(full, api.MaxDefs))
	two := full + full
	wantFault(t, two+"S = "+strings.Repeat("A ", api.MaxParts+1)+";", api.ErrMany, len(two)+4+2*api.MaxParts)
}

func TestParseOfClosingBracketsBehindTheLastPart(t *testing.T) {
	src := "S = [(" + strings.Repeat("A ", api.MaxParts-2)
	mustParse(t, src+")];")
	wantFault(t, src+")A];", api.ErrMany, len(src)+1)
	wantFault(t, src+");", api.ErrForm, len(src)+1)
}

func TestParseOfManyOpenBrackets(t *testing.T) {
	const max = api.MaxOpen
	for _, b := range strings.Split("() [] {} <>", " ") {
		open, shut := strings.Repeat(b[:1], max), strings.Repeat(b[1:], max)
		mustParse(t, "S = "+open+"A"+shut+";")
		mustParse(t, "S = "+open+shut+open[:api.MaxParts-max]+shut[:api.MaxParts-max]+";")
		for _, o := range strings.Split("( [ { <", " ") {
			wantFault(t, "S = "+open+o, api.ErrDeep, 4+max)
			wantFault(t, "S = "+open+" A | "+o+shut+"=", api.ErrDeep, 4+max+5)
		}
		wantFault(t, "S = "+open, api.ErrShort, 4+max)
		wantFault(t, "S = "+open+";", api.ErrForm, 4+max)
	}
	mixed := strings.Repeat("([{<", max/4)
	mustParse(t, "S = "+mixed+strings.Repeat(">}])", max/4)+";")
	wantFault(t, "S = "+mixed+"(", api.ErrDeep, 4+max)
}

func TestParseCountsTheBracketsThatAreOpen(t *testing.T) {
	const max = api.MaxOpen
	// One is closed, and another one opened.
	mustParse(t, "S = "+strings.Repeat("(", max)+")("+strings.Repeat(")", max)+";")
	wantFault(t, "S = "+strings.Repeat("(", max)+")((", api.ErrDeep, 4+max+2)
	// Those of another definition do not count.
	one := "S = " + strings.Repeat("(", max) + strings.Repeat(")", max) + ";"
	mustParse(t, one+one+one)
	wantFault(t, one+"S = "+strings.Repeat("[", max+1), api.ErrDeep, len(one)+4+max)
}

func TestParseTellsErrDeepAheadOfErrMany(t *testing.T) {
	src := "S = " + strings.Repeat("A ", api.MaxParts-api.MaxOpen) + strings.Repeat("(", api.MaxOpen)
	mustParse(t, src+strings.Repeat(")", api.MaxOpen)+";")
	wantFault(t, src+"(", api.ErrDeep, len(src))
	wantFault(t, src+"[", api.ErrDeep, len(src))
	wantFault(t, src+"A", api.ErrMany, len(src))
	wantFault(t, src+"|", api.ErrMany, len(src))
	wantFault(t, src+")(", api.ErrMany, len(src)+1)
	wantFault(t, src+")))", api.ErrShort, len(src)+3)
}

func TestParseOfTheLongestTexts(t *testing.T) {
	src := "S = A;"
	mustParse(t, src+strings.Repeat(" ", api.MaxText-len(src)))
	wantFault(t, src+strings.Repeat(" ", api.MaxText-len(src)+1), api.ErrMany, api.MaxText)
	wantFault(t, strings.Repeat(" ", api.MaxText), api.ErrShort, api.MaxText)
	// The place that is told of a short text is its length, not where its last token ends.
	wantFault(t, "S"+strings.Repeat("\n", api.MaxText-1), api.ErrShort, api.MaxText)
}

// P2.1: wrong inputs.

func TestParseTellsScansFault(t *testing.T) {
	for _, src := range []string{"?", "S = ? ;", "S = 1;", `S = "a;`, `S = "";`, "abcdefghijklm = ;", "S = abcdefghijklm;", "S = \x00", "S = é;", strings.Repeat(";", api.MaxText+1)} {
		_, f := token.Scan(src)
		if f.Code == 0 {
			t.Fatalf("Scan(%q) has no fault", short(src))
		}
		wantFault(t, src, f.Code, f.At)
	}
	// Ahead of all that is wrong with tokens in front of it.
	wantFault(t, "; = ) ?", api.ErrText, 6)
	wantFault(t, "S = "+strings.Repeat("(", api.MaxOpen+1)+`"`, api.ErrText, 4+api.MaxOpen+1)
	wantFault(t, "S = "+strings.Repeat("A ", api.MaxParts+1)+"abcdefghijklm", api.ErrName, 4+2*(api.MaxParts+1))
	wantFault(t, strings.Repeat("S = ;", api.MaxDefs+1)+"!", api.ErrText, 5*(api.MaxDefs+1))
}

func TestParseTellsErrForm(t *testing.T) {
	for src, at := range map[string]int{
		`=`: 0, `;`: 0, `|`: 0, `(`: 0, `)`: 0, `"a"`: 0, ` # x` + "\n" + `< S`: 5,
		`S S`: 2, `S "a"`: 2, `S ;`: 2, `S | `: 2, `S (`: 2, `S)`: 1,
		`S = =`: 4, `S = A = `: 6, `S = A T = B ;`: 8,
		`S = )`: 4, `S = ]`: 4, `S = }`: 4, `S = >`: 4, `S = A )`: 6, `S = | )`: 6,
		`S = ( ;`: 6, `S = (]`: 5, `S = [)`: 5, `S = {>`: 5, `S = <}`: 5, `S = ([)]`: 6, `S = [ A = `: 8,
		`S = ((A);`: 8, `S = (A));`: 7, `S = [A|;`: 7,
		`S = ;;`: 5, `S = ; = `: 6, `S = ; "a"`: 6, `S = ; |`: 6, `S = ; )`: 6, `S = ; T ;`: 8,
	} {
		wantFault(t, src, api.ErrForm, at)
	}
}

func TestParseTellsErrShort(t *testing.T) {
	for _, src := range []string{`S`, `S `, `S # = ;`, `S =`, `S = # ;`, `S = A`, `S = "a" |`, `S = (`, `S = (A`, `S = (A)`, `S = [ `, `S = {A|`, `S = <[(`, `S = ; T`, `S = ; T =` + "\n", `S = ; T = (A) B # ;`} {
		wantFault(t, src, api.ErrShort, len(src))
	}
}

func TestParseTellsTheFirstPlace(t *testing.T) {
	many := strings.Repeat("A ", api.MaxParts+1)
	deep := strings.Repeat("(", api.MaxOpen+1)
	wantFault(t, "S ; S = "+many, api.ErrForm, 2)
	wantFault(t, "S = ; ; "+deep, api.ErrForm, 6)
	wantFault(t, "S = ] "+many, api.ErrForm, 4)
	wantFault(t, "S = "+many+"=", api.ErrMany, 4+2*api.MaxParts)
	wantFault(t, "S = "+many+deep, api.ErrMany, 4+2*api.MaxParts)
	wantFault(t, "S = "+deep+many, api.ErrDeep, 4+api.MaxOpen)
	wantFault(t, "S = "+deep+"] ;;", api.ErrDeep, 4+api.MaxOpen)
	wantFault(t, "S = "+deep+";"+strings.Repeat("S = ;", api.MaxDefs), api.ErrDeep, 4+api.MaxOpen)
	wantFault(t, strings.Repeat("S = ;", api.MaxDefs)+"S = "+deep, api.ErrMany, 5*api.MaxDefs)
	wantFault(t, strings.Repeat("S = ;", api.MaxDefs-1)+"S = "+many+"; S", api.ErrMany, 5*api.MaxDefs-1+2*api.MaxParts)
}

// P2.1: against a second reader, that has a stack of its own.

// judge tells the fault of a text whose tokens are right: what may come next is kept as a state and the brackets that are open.
func judge(tokens []api.Token, end int) api.Fault {
	const name, equals, inside = 0, 1, 2
	state, defs, parts := name, 0, 0
	var open []string
	shut := map[string]string{"(": ")", "[": "]", "{": "}", "<": ">"}
	for _, t := range tokens {
		sign := ""
		if t.Kind == api.TokSign {
			sign = t.Text
		}
		opens := shut[sign] != ""
		part := sign == "" || sign == "|" || opens
		switch {
		case state == inside && opens && len(open) == api.MaxOpen:
			return api.Fault{Code: api.ErrDeep, At: t.At}
		case state == name && defs == api.MaxDefs, state == inside && part && parts == api.MaxParts:
			return api.Fault{Code: api.ErrMany, At: t.At}
		case state == name && t.Kind == api.TokName:
			state = equals
		case state == equals && sign == "=":
			state, parts = inside, 0
		case state == inside && part:
			parts++
			if opens {
				open = append(open, shut[sign])
			}
		case state == inside && len(open) > 0 && sign == open[len(open)-1]:
			open = open[:len(open)-1]
		case state == inside && len(open) == 0 && sign == ";":
			state, defs = name, defs+1
		default:
			return api.Fault{Code: api.ErrForm, At: t.At}
		}
	}
	if state != name || defs == 0 {
		return api.Fault{Code: api.ErrShort, At: end}
	}
	return api.Fault{}
}

func holdFault(t *testing.T, src string) {
	t.Helper()
	tokens, f := token.Scan(src)
	if f.Code == 0 {
		f = judge(tokens, len(src))
	}
	got, g := Parse(src)
	if g != f {
		t.Fatalf("Parse(%q): fault %v, want %v", src, g, f)
	}
	if (len(got.Defs) > 0) != (f.Code == 0) {
		t.Fatalf("Parse(%q): %v, fault %v", src, got, g)
	}
}

func TestParseOfAllShortTexts(t *testing.T) {
	words := strings.Split(`S = ; | "a" ( ) [ ]`, " ")
	var all func(src string, left int)
	all = func(src string, left int) {
		holdFault(t, src)
		if left > 0 {
			for _, w := range words {
				all(src+w+" ", left-1)
			}
		}
	}
	all("", 4)
	all("S = ", 4)
	all("S = ;", 4)
	all("S = (A [", 4)
	all("S = {A | <B", 3)
	all("S = A T", 3)
}

// maker makes up texts, and tells what they are.
type maker struct {
	*rand.Rand
	parts int
}

// blank: what may stand between two tokens.
func (m *maker) blank() string {
	return []string{" ", "\n", "\t", "\r\n", " # ; ) \"\n", "\n#\n  "}[m.Intn(6)]
}

func (m *maker) word() string {
	return []string{"A", "b", "_", "Name9", "long_name_12"}[m.Intn(5)]
}

func (m *maker) item(deep int) (string, api.Expr) {
	m.parts--
	kind := m.Intn(6)
	if deep == 0 {
		kind = m.Intn(2)
	}
	if kind == 0 {
		w := m.word()
		return w, name(w)
	}
	if kind == 1 {
		w := []string{"a", ";", "|", "(", "# x", "=", ")"}[m.Intn(7)]
		return `"` + w + `"`, term(w)
	}
	src, e := m.alt(deep - 1)
	b := []string{"()", "[]", "{}", "<>"}[kind-2]
	if kind > 2 {
		e = of([]int{api.XOpt, api.XStar, api.XPlus}[kind-3], e)
	}
	return b[:1] + m.blank() + src + b[1:], e
}

func (m *maker) row(deep int) (string, api.Expr) {
	src, l := "", []api.Expr{}
	for n := m.Intn(4); n > 0 && m.parts > 0; n-- {
		s, e := m.item(deep)
		src, l = src+s+m.blank(), append(l, e)
	}
	if len(l) == 1 {
		return src, l[0]
	}
	return src, row(l...)
}

func (m *maker) alt(deep int) (string, api.Expr) {
	src, e := m.row(deep)
	l := []api.Expr{e}
	for n := m.Intn(3); n > 0 && m.parts > 0; n-- {
		m.parts--
		s, e := m.row(deep)
		src, l = src+"|"+m.blank()+s, append(l, e)
	}
	if len(l) == 1 {
		return src, l[0]
	}
	return src, alt(l...)
}

func (m *maker) text() (src string, t api.Text) {
	for n := 1 + m.Intn(4); n > 0; n-- {
		src += m.blank()
		m.parts = api.MaxParts
		w := m.word()
		s, e := m.alt(m.Intn(6))
		t.Defs = append(t.Defs, def(len(src), w, e))
		src += w + m.blank() + "=" + s + ";"
	}
	return src + m.blank(), t
}

func TestParseOfTextsMadeUp(t *testing.T) {
	m := &maker{Rand: rand.New(rand.NewSource(2))}
	for range 3000 {
		src, want := m.text()
		wantDefs(t, src, want.Defs...)
		// The same text, cut off at any place, and with one byte less or another one.
		i := m.Intn(len(src))
		holdFault(t, src[:i])
		holdFault(t, src[:i]+src[i+1:])
		holdFault(t, src[:i]+string(`S=;|()[]{}<>" `[m.Intn(14)])+src[i+1:])
		if t.Failed() {
			return
		}
	}
}

func FuzzParse(f *testing.F) {
	f.Add(`S = "a" S "b" | ;`)
	f.Add("S = [{<(S)>}]; # x\nT=;")
	f.Add("S = " + strings.Repeat("(", api.MaxOpen+1))
	f.Fuzz(func(t *testing.T, src string) {
		holdFault(t, src)
		got, _ := Parse(src)
		if again, _ := Parse(src); !Same(got, again) || !reflect.DeepEqual(got, again) {
			t.Errorf("Parse(%q): %v, and then %v", src, got, again)
		}
	})
}

// What holds everywhere: an answer is new memory.

// lists calls look with each list of expressions of e.
func lists(e api.Expr, look func([]api.Expr)) {
	look(e.L)
	for _, x := range e.L {
		lists(x, look)
	}
}

func TestParseSharesNoMemory(t *testing.T) {
	m := &maker{Rand: rand.New(rand.NewSource(3))}
	for range 300 {
		src, want := m.text()
		a, b := mustParse(t, src), mustParse(t, src)
		seen := map[*api.Expr]bool{}
		for _, d := range slices.Concat(a.Defs, b.Defs) {
			lists(d.E, func(l []api.Expr) {
				l = l[:cap(l)] // what an append would write to is not another list's, either
				for i := range l {
					if seen[&l[i]] {
						t.Fatalf("Parse(%q): two lists share memory", src)
					}
					seen[&l[i]] = true
				}
			})
		}
		for i := range a.Defs {
			lists(a.Defs[i].E, func(l []api.Expr) { clear(l) })
		}
		clear(a.Defs)
		wantDefs(t, src, want.Defs...)
	}
}

// P2.2: texts that are the same, but for places.

func wantSame(t *testing.T, a, b api.Text, want bool) {
	t.Helper()
	if Same(a, b) != want || Same(b, a) != want {
		t.Errorf("Same(%v, %v): %v, and the other way round %v, want %v", a, b, Same(a, b), Same(b, a), want)
	}
}

func TestSameOfTextsThatDifferInPlacesAlone(t *testing.T) {
	wantSame(t, mustParse(t, `S = A | "b" ; T = [S] ;`), mustParse(t, " # x\nS=A|\"b\";\n\nT=[(S)];"), true)
	a := api.Text{Defs: []api.Def{def(0, "S", name("A")), def(9, "T", row())}}
	for _, at := range []int{0, 1, -1, 9, 1 << 40} {
		wantSame(t, a, api.Text{Defs: []api.Def{def(at, "S", name("A")), def(9, "T", row())}}, true)
		wantSame(t, a, api.Text{Defs: []api.Def{def(0, "S", name("A")), def(at, "T", row())}}, true)
	}
}

func TestSameOfTextsWithoutElements(t *testing.T) {
	wantSame(t, api.Text{}, api.Text{}, true)
	wantSame(t, api.Text{}, api.Text{Defs: []api.Def{}}, true)
	wantSame(t, api.Text{}, api.Text{Defs: []api.Def{{}}}, false)
	none := api.Text{Defs: []api.Def{def(0, "S", api.Expr{Op: api.XRow})}}
	empty := api.Text{Defs: []api.Def{def(0, "S", api.Expr{Op: api.XRow, L: []api.Expr{}})}}
	wantSame(t, none, empty, true)
	wantSame(t, none, api.Text{Defs: []api.Def{def(0, "S", row(row()))}}, false)
	wantSame(t, api.Text{Defs: []api.Def{def(0, "S", row(none.Defs[0].E))}}, api.Text{Defs: []api.Def{def(0, "S", row(empty.Defs[0].E))}}, true)
}

func TestSameOfOtherDefinitions(t *testing.T) {
	all := mustParse(t, `S = A; T = B; U = ;`)
	for _, src := range []string{`S = A; T = B;`, `T = B; U = ;`, `S = A; U = ;`, `S = A; T = B; U = ; U = ;`, `T = B; S = A; U = ;`, `S = A; U = ; T = B;`, `X = A; T = B; U = ;`, `S = A; t = B; U = ;`, `S = A; T = B; UU = ;`, `S = B; T = B; U = ;`, `S = A; T = A; U = ;`, `S = A; T = B; U = A;`} {
		wantSame(t, all, mustParse(t, src), false)
	}
}

func TestSameOfOtherExpressions(t *testing.T) {
	srcs := []string{`A`, `B`, `"A"`, ``, `A A`, `A B`, `B A`, `A B A`, `A | A`, `A | B`, `B | A`, `A | B | A`, `A |`, `| A`, `[A]`, `{A}`, `<A>`, `[B]`, `["A"]`, `[[A]]`, `[{A}]`, `{[A]}`, `[A A]`, `[A|A]`, `[]`, `{}`, `<>`, `A (A B)`, `(A B) A`, `A A B`, `() ()`, `() () ()`}
	for _, around := range []string{`%s`, `[%s]`, `X {Y | (%s)} Z`, `<[{<(X | (%s))>}]>`} {
		for i, a := range srcs {
			for k, b := range srcs {
				x := mustParse(t, fmt.Sprintf("S = "+around+"; T = ;", a))
				y := mustParse(t, fmt.Sprintf("S="+around+";\nT=;", b))
				wantSame(t, x, y, i == k)
			}
		}
	}
}

// exprs answers all expressions of e, each of which may be changed in its place.
func exprs(e *api.Expr) []*api.Expr {
	out := []*api.Expr{e}
	for i := range e.L {
		out = append(out, exprs(&e.L[i])...)
	}
	return out
}

func TestSameOfTextsThatDifferInOneField(t *testing.T) {
	changes := []func(*api.Expr){
		func(e *api.Expr) { e.Op++ },
		func(e *api.Expr) { e.Op = -e.Op },
		func(e *api.Expr) { e.Name += "x" },
		func(e *api.Expr) { e.L = append(e.L, api.Expr{}) },
		func(e *api.Expr) { e.L = append([]api.Expr{{}}, e.L...) },
	}
	m := &maker{Rand: rand.New(rand.NewSource(4))}
	for range 30 {
		src, a := m.text()
		for i := range a.Defs {
			for k := range exprs(&a.Defs[i].E) {
				for _, change := range changes {
					b := mustParse(t, src)
					wantSame(t, a, b, true)
					e := exprs(&b.Defs[i].E)[k]
					change(e)
					wantSame(t, a, b, false)
				}
				b := mustParse(t, src)
				if e := exprs(&b.Defs[i].E)[k]; len(e.L) > 0 {
					e.L = e.L[:len(e.L)-1]
					wantSame(t, a, b, false)
				}
			}
			b := mustParse(t, src)
			b.Defs[i].Name += "x"
			wantSame(t, a, b, false)
		}
		if t.Failed() {
			return
		}
	}
}

// P1: whatever it is given.

func TestSameOfExpressionsThatNoTextHas(t *testing.T) {
	odd := []api.Expr{{}, {Op: 99}, {Op: -1}, {Op: api.XName}, {Op: api.XName, Name: "\x00 é"}, {Op: api.XTerm, Name: "A", L: []api.Expr{{}}}, {Op: api.XOpt}, {Op: api.XOpt, L: []api.Expr{{}, {}}}, {Op: api.XAlt}, {Op: api.XAlt, L: []api.Expr{{}}}, {Op: api.XRow, Name: "A"}, {Op: api.XRow, L: []api.Expr{{Op: 1 << 62}}}}
	for i, a := range odd {
		for k, b := range odd {
			wantSame(t, api.Text{Defs: []api.Def{{E: a}}}, api.Text{Defs: []api.Def{{At: 1, E: b}}}, i == k)
		}
	}
}

func nest(deep int, core api.Expr) api.Text {
	for range deep {
		core = of(api.XStar, core)
	}
	return api.Text{Defs: []api.Def{def(0, "S", core)}}
}

func TestSameOfDeepExpressions(t *testing.T) {
	const deep = 1<<16 - 1
	if !Same(nest(deep, name("A")), nest(deep, name("A"))) {
		t.Error("two deep texts are not the same")
	}
	if Same(nest(deep, name("A")), nest(deep, name("B"))) || Same(nest(deep, name("A")), nest(deep-1, name("A"))) {
		t.Error("two deep texts that differ at their bottom are the same")
	}
}

func TestSameOfManyDefinitions(t *testing.T) {
	a, b := api.Text{Defs: make([]api.Def, 100000)}, api.Text{Defs: make([]api.Def, 100000)}
	b.Defs[99999].At = 1
	if !Same(a, b) {
		t.Error("two long texts are not the same")
	}
	b.Defs[99999].E.Name = "x"
	if Same(a, b) {
		t.Error("two long texts that differ at their end are the same")
	}
}

func TestSameLooksBehindNoList(t *testing.T) {
	with := func(s string) api.Text {
		l := []api.Expr{name("A"), name("B"), name(s)}[:2]
		return api.Text{Defs: []api.Def{def(0, "S", row(l...)), def(0, s, row())}[:1]}
	}
	wantSame(t, with("X"), with("Y"), true)
}

func TestSameChangesNothing(t *testing.T) {
	src := `S = A [B | {"c"} ()] ; T = <S> ;`
	a, b, c := mustParse(t, src), mustParse(t, src), mustParse(t, `S = A;`)
	Same(a, c)
	Same(a, b)
	Same(a, a)
	if !reflect.DeepEqual(a, b) || !reflect.DeepEqual(c, mustParse(t, `S = A;`)) {
		t.Errorf("Same changed what it was given: %v, %v", a, b)
	}
}
