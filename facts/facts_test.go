package facts

import (
	"fmt"
	"math"
	"math/rand"
	"reflect"
	"slices"
	"strconv"
	"strings"
	"testing"

	"graftwork/api"
	"graftwork/gram"
)

func rule(left int, right ...int) api.Rule { return api.Rule{Left: left, Right: right} }

// read makes a grammar of rules as the document tells them: terminals by #, `;` between the rules. It begins with 0.
func read(vars int, src string) api.Grammar {
	g := api.Grammar{Vars: vars, Terms: 3}
	for _, line := range strings.Split(src, ";") {
		words := strings.Fields(line)
		if len(words) == 0 {
			continue
		}
		left, _ := strconv.Atoi(words[0])
		r := rule(left)
		for _, w := range words[2:] {
			n, _ := strconv.Atoi(strings.TrimPrefix(w, "#"))
			if strings.HasPrefix(w, "#") {
				n = -1 - n
			}
			r.Right = append(r.Right, n)
		}
		g.Rules = append(g.Rules, r)
	}
	return g
}

func from(start int, g api.Grammar) api.Grammar {
	g.Start = start
	return g
}

func brief(x any) string {
	s := fmt.Sprint(x)
	if len(s) > 300 {
		return s[:300] + ".."
	}
	return s
}

// told tells a list by its numbers, with blanks between.
func told(l []int) string { return strings.Trim(fmt.Sprint(l), "[]") }

// toldAll tells lists, with `;` between.
func toldAll(all [][]int) string {
	var out []string
	for _, l := range all {
		out = append(out, told(l))
	}
	return strings.Join(out, ";")
}

// numbers tells the numbers from low to high.
func numbers(low, high int) string {
	var l []int
	for n := low; n <= high; n++ {
		l = append(l, n)
	}
	return told(l)
}

type face func(api.Grammar) ([]int, api.Fault)

func want(t *testing.T, name string, ask face, g api.Grammar, list string) {
	t.Helper()
	l, f := ask(g)
	if f != (api.Fault{}) {
		t.Errorf("%s of %s: fault %v", name, brief(g), f)
	}
	if told(l) != list {
		t.Errorf("%s of %s: %s, want %s", name, brief(g), told(l), list)
	}
}

func wantNullable(t *testing.T, g api.Grammar, list string) {
	t.Helper()
	want(t, "Nullable", Nullable, g, list)
}

func wantProductive(t *testing.T, g api.Grammar, list string) {
	t.Helper()
	want(t, "Productive", Productive, g, list)
}

func wantReachable(t *testing.T, g api.Grammar, list string) {
	t.Helper()
	want(t, "Reachable", Reachable, g, list)
}

func wantCyclic(t *testing.T, g api.Grammar, list string) {
	t.Helper()
	want(t, "Cyclic", Cyclic, g, list)
}

func wantCorners(t *testing.T, g api.Grammar, lists string) {
	t.Helper()
	l, f := Corners(g)
	if f != (api.Fault{}) {
		t.Errorf("Corners of %s: fault %v", brief(g), f)
	}
	if toldAll(l) != lists || len(l) != g.Vars {
		t.Errorf("Corners of %s: %d lists, %s, want %s", brief(g), len(l), toldAll(l), lists)
	}
}

// wantFault: all five tell it, and nothing else.
func wantFault(t *testing.T, g api.Grammar, code, at int) {
	t.Helper()
	want := api.Fault{Code: code, At: at}
	for i, ask := range []face{Nullable, Productive, Reachable, Cyclic} {
		if l, f := ask(g); l != nil || f != want {
			t.Errorf("point %d of %s: list %v, fault %v, want %v", i+1, brief(g), l, f, want)
		}
	}
	if l, f := Corners(g); l != nil || f != want {
		t.Errorf("Corners of %s: lists %v, fault %v, want %v", brief(g), l, f, want)
	}
}

// Ordinary grammars: all that is so of each.

func TestOrdinaryGrammars(t *testing.T) {
	for _, c := range []struct {
		vars                                             int
		rules                                            string
		nullable, productive, reachable, cyclic, corners string
	}{
		{1, "", "", "", "0", "", ""},
		{1, "0 >", "0", "0", "0", "", ""},
		{1, "0 > #0", "", "0", "0", "", ""},
		{1, "0 > 0", "", "", "0", "0", "0"},
		{1, "0 > 0; 0 >", "0", "0", "0", "0", "0"},
		{1, "0 > 0 #0; 0 > #1", "", "0", "0", "", "0"},
		{1, "0 > #0 0; 0 >", "0", "0", "0", "", ""},
		{1, "0 > 0 0; 0 > #0", "", "0", "0", "", "0"},
		{1, "0 > 0 0; 0 >", "0", "0", "0", "0", "0"},
		{2, "0 > 1; 1 > #0", "", "0 1", "0 1", "", "1;"},
		{2, "0 > 1 1; 1 >", "0 1", "0 1", "0 1", "", "1;"},
		{2, "0 > #0 1 #1; 1 > #2; 1 > 0", "", "0 1", "0 1", "", ";0"},
		{2, "1 > #0; 1 >", "1", "1", "0", "", ";"},
		{2, "0 > 1; 1 > 0", "", "", "0 1", "0 1", "0 1;0 1"},
		{3, "0 > #0 0 1; 0 >; 2 > 1 0", "0", "0", "0 1", "", ";;1"},
		{3, "0 > 1 2; 1 >; 2 >; 1 > 2; 2 > #0 0", "0 1 2", "0 1 2", "0 1 2", "", "1 2;2;"},
		{3, "0 > #0; 1 > 2 1; 2 > 1; 2 >", "2", "0 2", "0", "1", ";1 2;1 2"},
		{4, "0 > 1 0 2; 1 >; 2 >; 2 > #0; 0 > #1; 3 > 3 0", "1 2", "0 1 2", "0 1 2", "0", "0 1;;;3"},
		{5, "0 > 0 1; 1 >; 0 > #0 2; 2 > 3 2; 3 > #0", "1", "1 3", "0 1 2 3", "0", "0;;3;;"},
		{5, "4 > 3 #0; 3 > 2 2; 2 > 1 3; 1 >; 2 >; 0 > #1 4", "1 2 3", "0 1 2 3 4", "0 1 2 3 4", "2 3", ";;1 2 3;1 2 3;1 2 3"},
	} {
		g := read(c.vars, c.rules)
		wantNullable(t, g, c.nullable)
		wantProductive(t, g, c.productive)
		wantReachable(t, g, c.reachable)
		wantCyclic(t, g, c.cyclic)
		wantCorners(t, g, c.corners)
	}
}

// The chapter's example, and those of the document.
func TestExamples(t *testing.T) {
	g := read(2, "0 > 0 1; 1 >")
	wantCyclic(t, g, "0")
	wantCorners(t, g, "0;")
	// S > S a, S > b, and what it becomes by turn.
	wantCorners(t, read(1, "0 > 0 #0; 0 > #1"), "0")
	wantCorners(t, read(2, "0 > #1; 0 > #1 1; 1 > #0; 1 > #0 1"), ";")
	wantCyclic(t, read(1, "0 > 0 #0; 0 > #1"), "")
	// S > S S, S > a: a word has so many trees, and no more.
	wantCyclic(t, read(1, "0 > 0 0; 0 > #0"), "")
	wantCyclic(t, read(2, "0 > #0 1; 1 > 1"), "1")
}

// P7.1

func TestNullable(t *testing.T) {
	for rules, list := range map[string]string{
		"0 >; 1 >; 2 >; 3 >":                     "0 1 2 3",
		"3 >; 1 >":                               "1 3",
		"0 > #0; 0 > #1; 0 >; 1 > #0":            "0",
		"0 > 1; 1 > 2; 2 > 3; 3 >":               "0 1 2 3",
		"3 > 2; 2 > 1; 1 > 0; 0 >":               "0 1 2 3",
		"0 > 2; 2 > 1; 1 > 3; 3 >":               "0 1 2 3",
		"0 > 1 2 3; 1 >; 2 >; 3 >":               "0 1 2 3",
		"0 > 1 2 3; 1 >; 2 >; 3 > #0":            "1 2",
		"0 > 1 2 3; 1 >; 3 >":                    "1 3",
		"0 > 1 #0; 1 >; 2 > #0 1; 3 > 1 #0 1":    "1",
		"0 > 0; 1 > 2; 2 > 1; 3 > 3 3":           "",
		"0 > 0 0; 0 > 1; 1 > 1 0; 1 >":           "0 1",
		"0 > 1 1 1 1 1 1 1 1 1 1; 1 >":           "0 1",
		"0 > 1 1 1 1 1 1 1 1 1 2; 1 >":           "1",
		"0 > 2 1 1 1 1 1 1 1 1 1; 1 >; 2 > #0":   "1",
		"0 > 1; 0 > 2; 0 > 3; 3 >":               "0 3",
		"0 > 1; 1 > 0; 1 > 3; 2 > 1 #1; 3 >":     "0 1 3",
		"0 > 1 2; 1 > 2 2; 2 > 3 3; 3 > ; 3 > 0": "0 1 2 3",
	} {
		// What is nullable hangs on Start in no way.
		for start := range 4 {
			wantNullable(t, from(start, read(4, rules)), list)
		}
	}
}

// P7.2

func TestProductive(t *testing.T) {
	for rules, list := range map[string]string{
		"":                                     "",
		"0 >; 1 > #0; 2 > #2 #1":               "0 1 2",
		"0 > 1; 1 > 2; 2 > 3; 3 > #0":          "0 1 2 3",
		"3 > 2; 2 > 1; 1 > 0; 0 > #0":          "0 1 2 3",
		"0 > 2; 2 > 1; 1 > 3; 3 >":             "0 1 2 3",
		"0 > 1 #0 2; 1 > #1; 2 > 1 1":          "0 1 2",
		"0 > 1 #0 2; 1 > #1":                   "1",
		"0 > 2 #0 1; 1 > #1; 2 > 2 #1":         "1",
		"0 > 0 #0; 1 > #0 1; 2 > 3; 3 > 2":     "",
		"0 > 0 #0; 0 > #0 0; 0 > #0":           "0",
		"0 > 1; 0 > 2; 0 > 3; 3 > #0":          "0 3",
		"0 > 0 1; 1 > 0; 1 > 2 2; 2 > #0; 0 >": "0 1 2",
		"0 > 1 1 1 1 1 1 1 1 1 2; 1 > #0":      "1",
		"0 > #0 #0 #0 #0 #0 #0 #0 #0 #0 1":     "",
		"0 > 1 2; 1 > 2; 2 > 3; 3 > 0; 3 > #0": "0 1 2 3",
	} {
		for start := range 4 {
			wantProductive(t, from(start, read(4, rules)), list)
		}
	}
}

// P7.3

func TestReachable(t *testing.T) {
	for _, c := range []struct {
		start       int
		rules, list string
	}{
		{0, "", "0"},
		{3, "", "3"},
		{2, "0 > 1; 1 > 3; 3 > 2", "2"},
		{2, "2 > #0; 2 >; 1 > 2; 0 > 2 3", "2"},
		{2, "2 > 2", "2"},
		{0, "0 > 1; 1 > 2; 2 > 3", "0 1 2 3"},
		{0, "2 > 3; 1 > 2; 0 > 1", "0 1 2 3"},
		{3, "3 > 2; 2 > 1; 1 > 0", "0 1 2 3"},
		{3, "1 > 0; 2 > 1; 3 > 2", "0 1 2 3"},
		{1, "0 > 3; 1 > 2; 2 > 1", "1 2"},
		{1, "1 > #0 3 #1; 3 > #2", "1 3"},
		{0, "0 > 1 2 3", "0 1 2 3"},
		{0, "0 > #0 #1 #2 1 1 #0 #0 #0 #0 3", "0 1 3"},
		{0, "0 > #0; 0 > 1; 0 > 3", "0 1 3"},
		// It makes no difference that they, or those beside them, have no tree.
		{0, "0 > 0 1 #0 2", "0 1 2"},
		{0, "1 > 3; 0 > 2 1; 3 > 1", "0 1 2 3"},
	} {
		wantReachable(t, from(c.start, read(4, c.rules)), c.list)
	}
}

// P7.4

func TestCyclic(t *testing.T) {
	for rules, list := range map[string]string{
		"0 > 0":                                  "0",
		"0 > 1; 1 > 0":                           "0 1",
		"0 > 1; 1 > 2; 2 > 3; 3 > 0":             "0 1 2 3",
		"3 > 2; 2 > 1; 1 > 0; 0 > 3":             "0 1 2 3",
		"0 > 2; 2 > 1; 1 > 3; 3 > 0":             "0 1 2 3",
		"0 > 1; 1 > 2; 2 > 3":                    "",
		"0 > 1; 1 > 2; 2 > 1; 2 > 3":             "1 2",
		"0 > 1; 1 > 1":                           "1",
		"0 > 0 #0; 1 > #0 1; 2 > #0 2 #0":        "",
		"0 > 0 1; 1 >":                           "0",
		"0 > 1 0; 1 >":                           "0",
		"0 > 1 0 1; 1 >":                         "0",
		"0 > 1 0 2; 1 >":                         "",
		"0 > 2 0 1; 1 >":                         "",
		"0 > 1 0 2; 1 >; 2 > 1 1":                "0",
		"0 > 1 0 #0; 1 >":                        "",
		"0 > #0 0 1; 1 >":                        "",
		"0 > 0 1; 1 > #0":                        "",
		"0 > 0 1; 1 > #0; 1 >":                   "0",
		"0 > 1 2; 1 > 0 3; 2 > ; 3 >":            "0 1",
		"0 > 1 2; 1 > 0 3; 2 >":                  "",
		"0 > 1 1 1 1 1 1 1 1 1 0; 1 >":           "0",
		"0 > 0 1 1 1 1 1 1 1 1 1; 1 >":           "0",
		"0 > 1 1 1 1 1 0 1 1 1 2; 1 >; 2 > #0":   "",
		"0 > 2 1 1 1 1 0 1 1 1 1; 1 >; 2 > #0":   "",
		"0 > 1; 0 > 2; 0 > 3; 3 > 0":             "0 3",
		"0 > 1; 1 > 0 #0; 0 > 2; 2 > #0 0":       "",
		"0 > 1 #0; 0 > 2; 1 > 0; 2 > 0 3; 3 > ;": "0 2",
	} {
		for start := range 4 {
			wantCyclic(t, from(start, read(4, rules)), list)
		}
	}
}

// One that stands in a rule twice leads there alone only if it is nullable itself: the other one of the two stands beside it.
func TestCyclicOfOneThatStandsTwice(t *testing.T) {
	for rules, list := range map[string]string{
		"0 > 0 0":                         "",
		"0 > 0 0; 0 > #0":                 "",
		"0 > 0 0; 0 >":                    "0",
		"0 > 0 0 0; 0 > 1; 1 >":           "0",
		"0 > 0 0 1; 0 >":                  "",
		"0 > 0 1 0; 0 >; 1 >":             "0",
		"0 > 1 1; 1 > 0":                  "",
		"0 > 1 1; 1 > 0; 1 >":             "0 1",
		"0 > 1 1; 1 > 0; 0 > #0":          "",
		"0 > 1 0 1; 1 > #0":               "",
		"0 > 0 0 0 0 0 0 0 0 0 0; 0 >":    "0",
		"0 > 0 0 0 0 0 0 0 0 0 0; 0 > #0": "",
	} {
		wantCyclic(t, read(2, rules), list)
	}
}

// It is asked of the rules alone, whether there is a tree or not, and whether Start comes there or not.
func TestCyclicOfOnesWithoutTrees(t *testing.T) {
	wantCyclic(t, read(3, "0 > #0; 1 > 2; 2 > 1"), "1 2")
	wantCyclic(t, read(3, "0 > 0 1; 1 >; 0 > 2"), "0")
}

// P7.5

func TestCorners(t *testing.T) {
	for rules, lists := range map[string]string{
		"":                                       ";;;",
		"0 > 0":                                  "0;;;",
		"0 > 0 #0; 1 > #0 1":                     "0;;;",
		"0 > 1; 1 > 2; 2 > 3":                    "1 2 3;2 3;3;",
		"3 > 2; 2 > 1; 1 > 0":                    ";0;0 1;0 1 2",
		"2 > 3; 1 > 2; 0 > 1":                    "1 2 3;2 3;3;",
		"0 > 2; 2 > 1; 1 > 3":                    "1 2 3;3;1 3;",
		"0 > 1; 1 > 2; 2 > 3; 3 > 0":             "0 1 2 3;0 1 2 3;0 1 2 3;0 1 2 3",
		"0 > 1; 1 > 0; 2 > 3; 3 > 2 0":           "0 1;0 1;2 3;2 3",
		"0 > 1; 1 > 1 #0; 2 > #0; 3 > 2":         "1;1;;2",
		"0 > 1 2; 1 > #0; 2 > 3":                 "1;;3;",
		"0 > 1 2; 1 >; 2 > 3":                    "1 2 3;;3;",
		"0 > 1 2; 1 > 3; 3 >; 2 > #0":            "1 2 3;3;;",
		"0 > 1 2 3; 1 >; 2 > #0":                 "1 2;;;",
		"0 > 1 2 3; 1 >; 2 >; 2 > #0":            "1 2 3;;;",
		"0 > 1 #0 2; 1 >":                        "1;;;",
		"0 > #0 1 2; 1 >":                        ";;;",
		"0 > 1 0; 1 >":                           "0 1;;;",
		"0 > 1 0; 1 > #0":                        "1;;;",
		"0 > 1 1 2; 1 >":                         "1 2;;;",
		"0 > 1 1 2; 1 > #0":                      "1;;;",
		"0 > 1 1 1 1 1 1 1 1 1 2; 1 >":           "1 2;;;",
		"0 > 1 1 1 1 3 1 1 1 1 2; 1 >":           "1 3;;;",
		"0 > 1 1 1 1 #0 1 1 1 1 2; 1 >":          "1;;;",
		"0 > 3; 0 > 1; 0 > #0":                   "1 3;;;",
		"0 > 1 2; 1 > 3; 2 >; 3 > 2 0":           "0 1 2 3;0 1 2 3;;0 1 2 3",
		"0 > 0 1; 0 >; 1 > 2":                    "0 1 2;2;;",
		"1 > 2 3; 2 > 3 3; 3 >; 3 > #0 0; 2 > 0": ";0 2 3;0 3;",
	} {
		for start := range 4 {
			wantCorners(t, from(start, read(4, rules)), lists)
		}
	}
}

func TestCornersHasAListForEachNonterminal(t *testing.T) {
	for vars := 1; vars <= api.MaxVars; vars++ {
		wantCorners(t, api.Grammar{Vars: vars}, strings.Repeat(";", vars-1))
		last := strconv.Itoa(vars - 1)
		wantCorners(t, read(vars, last+" > "+last), strings.Repeat(";", vars-1)+last)
	}
}

// Start alone.

func TestStartAlone(t *testing.T) {
	for _, vars := range []int{1, 2, 63, 64} {
		for start := range vars {
			g := api.Grammar{Vars: vars, Start: start}
			none := strings.Repeat(";", vars-1)
			s := strconv.Itoa(start)
			wantNullable(t, g, "")
			wantProductive(t, g, "")
			wantReachable(t, g, s)
			wantCyclic(t, g, "")
			wantCorners(t, g, none)
			g.Rules = []api.Rule{rule(start)}
			wantNullable(t, g, s)
			wantProductive(t, g, s)
			wantReachable(t, g, s)
			wantCyclic(t, g, "")
			wantCorners(t, g, none)
			g.Rules = append(g.Rules, rule(start, start))
			wantCyclic(t, g, s)
			wantReachable(t, g, s)
		}
	}
}

// MaxVars nonterminals, in rows that go forth, and back, with the rules in either order.

// rows: each of vars leads to the next one by the symbols that right makes of it, and the last one has the rules of end.
func rows(vars int, forth, turned bool, right func(next int) []int, end ...[]int) api.Grammar {
	number := func(i int) int {
		if forth {
			return i
		}
		return vars - 1 - i
	}
	g := api.Grammar{Vars: vars, Terms: 1, Start: number(0)}
	for i := range vars - 1 {
		g.Rules = append(g.Rules, rule(number(i), right(number(i+1))...))
	}
	for _, r := range end {
		g.Rules = append(g.Rules, rule(number(vars-1), r...))
	}
	if turned {
		slices.Reverse(g.Rules)
	}
	return g
}

func TestLongRows(t *testing.T) {
	one := func(next int) []int { return []int{next} }
	two := func(next int) []int { return []int{next, next} }
	with := func(next int) []int { return []int{next, -1} }
	for _, vars := range []int{2, 5, 63, api.MaxVars} {
		all, last := numbers(0, vars-1), vars-1
		for k := range 4 {
			forth, turned := k&1 == 0, k&2 == 0
			end := last
			if !forth {
				end = 0
			}
			for _, right := range []func(int) []int{one, two} {
				g := rows(vars, forth, turned, right, nil)
				wantNullable(t, g, all)
				wantProductive(t, g, all)
				wantReachable(t, g, all)
				wantCyclic(t, g, "")
			}
			g := rows(vars, forth, turned, with, nil)
			wantNullable(t, g, strconv.Itoa(end))
			wantProductive(t, g, all)
			wantProductive(t, rows(vars, forth, turned, with), "")
			wantReachable(t, rows(vars, forth, turned, with), all)
			wantRound(t, rows(vars, forth, turned, one, []int{last - end}), all)
			wantRound(t, rows(vars, forth, turned, two, []int{last - end}, nil), all)
			wantCyclic(t, rows(vars, forth, turned, two, []int{last - end}), "")
			wantCyclic(t, rows(vars, forth, turned, one, []int{last - end, -1}), "")
		}
	}
}

// wantRound: each leads to all, alone and at its front.
func wantRound(t *testing.T, g api.Grammar, all string) {
	t.Helper()
	wantCyclic(t, g, all)
	wantCorners(t, g, strings.Repeat(";"+all, g.Vars)[1:])
}

func TestCornersOfLongRows(t *testing.T) {
	one := func(next int) []int { return []int{next, -1, next} }
	var forth, back []string
	for v := range api.MaxVars {
		forth = append(forth, numbers(v+1, 63))
		back = append(back, numbers(0, v-1))
	}
	for _, turned := range []bool{false, true} {
		wantCorners(t, rows(64, true, turned, one), strings.Join(forth, ";"))
		wantCorners(t, rows(64, false, turned, one), strings.Join(back, ";"))
	}
}

// The largest grammars that there may be.
func TestLargestGrammars(t *testing.T) {
	m := &maker{Rand: rand.New(rand.NewSource(70))}
	for range 100 {
		g := api.Grammar{Vars: 64, Terms: 16, Start: m.Intn(64)}
		for i := range api.MaxRules {
			r := rule((i * 37) % 64)
			for range api.MaxRight {
				r.Right = append(r.Right, m.Intn(64))
			}
			g.Rules = append(g.Rules, r)
		}
		g.Rules[m.Intn(160)].Right = nil
		g.Rules[m.Intn(160)].Right = []int{-1 - m.Intn(16)}
		holdAgainstSecond(t, g)
	}
}

// Sets.

func TestSetOfEachNumber(t *testing.T) {
	for v := range 64 {
		s := Set(0).With(v)
		if s != Set(1)<<v || told(s.List()) != strconv.Itoa(v) {
			t.Errorf("it with %d: %x, %v", v, s, s.List())
		}
		if s.With(v) != s {
			t.Errorf("%d put into it twice makes another one", v)
		}
		for w := -70; w <= 140; w++ {
			if s.Has(w) != (v == w) {
				t.Errorf("has it %d, with %d alone: %v", w, v, s.Has(w))
			}
		}
		full := ^Set(0)
		if !full.Has(v) || full.With(v) != full || (full &^ s).Has(v) || (full&^s).With(v) != full {
			t.Errorf("the full one with and without %d", v)
		}
	}
}

func TestSetOfNumbersThatMayNotBelong(t *testing.T) {
	for _, v := range []int{-1, 64, -2, 65, -63, -64, -65, 127, 128, 256, 1 << 32, 1<<32 + 3, -1 << 32, math.MaxInt32, math.MinInt32, math.MaxInt, math.MaxInt - 63, math.MinInt, math.MinInt + 1, math.MinInt + 64} {
		for _, s := range []Set{0, 1, 1 << 63, 5, ^Set(0)} {
			if s.Has(v) {
				t.Errorf("%x has %d", s, v)
			}
			if s.With(v) != s {
				t.Errorf("%x with %d: %x", s, v, s.With(v))
			}
		}
	}
}

func TestSetLists(t *testing.T) {
	for _, c := range []struct {
		s    Set
		list string
	}{
		{0, ""},
		{1, "0"},
		{1 << 63, "63"},
		{1<<63 | 1, "0 63"},
		{0xa5, "0 2 5 7"},
		{^Set(0), numbers(0, 63)},
		{^Set(0) >> 1, numbers(0, 62)},
		{^Set(0) - 1, numbers(1, 63)},
		{Set(0).With(9).With(3).With(40).With(3).With(-1).With(64), "3 9 40"},
		{Set(0).With(63).With(62).With(0), "0 62 63"},
	} {
		if told(c.s.List()) != c.list {
			t.Errorf("%x lists %v, want %s", c.s, c.s.List(), c.list)
		}
	}
}

func TestSetsMadeUp(t *testing.T) {
	m := rand.New(rand.NewSource(71))
	for range 2000 {
		s, seen := Set(0), map[int]int{}
		for range m.Intn(80) {
			v := m.Intn(80) - 8
			before := s
			s = s.With(v)
			if 0 <= v && v <= 63 {
				seen[v]++
			}
			if s&before != before {
				t.Fatalf("%x with %d: %x", before, v, s)
			}
		}
		var list []int
		for v := -8; v < 72; v++ {
			if s.Has(v) != (seen[v] > 0) {
				t.Fatalf("%x has %d: %v", s, v, s.Has(v))
			}
			if seen[v] > 0 {
				list = append(list, v)
			}
		}
		if !slices.Equal(s.List(), list) {
			t.Fatalf("%x lists %v, want %v", s, s.List(), list)
		}
	}
}

func TestSetAnswersNewLists(t *testing.T) {
	s := Set(0xff)
	a, b := s.List(), s.List()
	scratch(a, -5)
	if told(b) != numbers(0, 7) || told(s.List()) != numbers(0, 7) {
		t.Errorf("two lists share memory: %v, %v", b, s.List())
	}
}

// Wrong grammars: gram.Check's faults, and nothing else.

func TestFaults(t *testing.T) {
	ten, eleven := make([]int, 10), make([]int, 11)
	for _, c := range []struct {
		g        api.Grammar
		code, at int
	}{
		{api.Grammar{}, api.ErrRange, -1},
		{api.Grammar{Vars: -1}, api.ErrRange, -1},
		{api.Grammar{Vars: 65}, api.ErrRange, -1},
		{api.Grammar{Vars: 1, Terms: -1}, api.ErrRange, -1},
		{api.Grammar{Vars: 1, Terms: 17}, api.ErrRange, -1},
		{api.Grammar{Vars: 1, Start: -1}, api.ErrRange, -1},
		{api.Grammar{Vars: 1, Start: 1}, api.ErrRange, -1},
		{api.Grammar{Vars: 64, Start: 64}, api.ErrRange, -1},
		{api.Grammar{Vars: 1, Rules: make([]api.Rule, 161)}, api.ErrMany, -1},
		{api.Grammar{Vars: 1, Rules: make([]api.Rule, 1<<20)}, api.ErrMany, -1},
		{api.Grammar{Vars: 0, Rules: make([]api.Rule, 161)}, api.ErrRange, -1},
		{api.Grammar{Vars: 1, Rules: []api.Rule{rule(0), rule(0, eleven...)}}, api.ErrMany, 1},
		{api.Grammar{Vars: 1, Rules: []api.Rule{rule(0), rule(1, eleven...)}}, api.ErrMany, 1},
		{api.Grammar{Vars: 1, Rules: []api.Rule{rule(0), rule(1, ten...)}}, api.ErrRange, 1},
		{api.Grammar{Vars: 1, Rules: []api.Rule{rule(0), rule(0, 0), rule(-1)}}, api.ErrRange, 2},
		{api.Grammar{Vars: 1, Rules: []api.Rule{rule(0, 1)}}, api.ErrRange, 0},
		{api.Grammar{Vars: 1, Rules: []api.Rule{rule(0, -1)}}, api.ErrRange, 0},
		{api.Grammar{Vars: 2, Terms: 2, Rules: []api.Rule{rule(0, -1, -2), rule(1, 1, -3)}}, api.ErrRange, 1},
		{api.Grammar{Vars: 64, Terms: 16, Rules: []api.Rule{rule(63, 63, -16), rule(64)}}, api.ErrRange, 1},
		{api.Grammar{Vars: 64, Terms: 16, Rules: []api.Rule{rule(63, 63, -16), rule(0, 64)}}, api.ErrRange, 1},
		{api.Grammar{Vars: 64, Terms: 16, Rules: []api.Rule{rule(63, 63, -16), rule(0, -17)}}, api.ErrRange, 1},
	} {
		wantFault(t, c.g, c.code, c.at)
	}
	// What is at the edge has none.
	wantReachable(t, api.Grammar{Vars: 64, Terms: 16, Start: 63, Rules: slices.Repeat([]api.Rule{rule(63, 0, -16, 0, 0, 0, 0, 0, 0, 0, 1)}, 160)}, "0 1 63")
}

// P1: whatever it is given.
func TestOfWhateverGrammars(t *testing.T) {
	for _, n := range []int{math.MinInt, math.MinInt32, -1000, -64, -17, -1, 0, 1, 2, 63, 64, 65, 1000, 1 << 32, math.MaxInt} {
		for _, g := range []api.Grammar{
			{Vars: n, Terms: 1, Rules: []api.Rule{rule(0, 0)}},
			{Vars: 1, Terms: n, Rules: []api.Rule{rule(0, -1)}},
			{Vars: 1, Terms: 1, Start: n, Rules: []api.Rule{rule(0)}},
			{Vars: n, Terms: n, Start: n, Rules: []api.Rule{rule(n, n, n)}},
			{Vars: n, Start: n, Rules: make([]api.Rule, 3)},
			{Vars: 2, Terms: 2, Rules: []api.Rule{rule(0), rule(n), rule(1)}},
			{Vars: 64, Terms: 16, Start: 63, Rules: []api.Rule{rule(n, n), rule(63, n), rule(n, 63)}},
			{Vars: 2, Terms: 2, Rules: []api.Rule{rule(0), rule(0, -1, n, 1), rule(n, n), rule(1)}},
			{Vars: 2, Terms: 2, Rules: []api.Rule{rule(1, slices.Repeat([]int{n}, 1000)...)}},
			{Vars: 2, Terms: 2, Rules: slices.Repeat([]api.Rule{rule(n, n)}, 161)},
		} {
			holdAgainstSecond(t, g)
		}
	}
}

// A second way to each fact, held against the first one.

// treed tells of each nonterminal whether it has a tree: each rule waits for so many symbols, and whoever is found is struck out of the rules that wait for it.
func treed(g api.Grammar, terminals bool) []bool {
	out := make([]bool, g.Vars)
	waits := make([]int, len(g.Rules))
	var found []int
	for i, r := range g.Rules {
		for _, s := range r.Right {
			if s >= 0 || !terminals {
				waits[i]++
			}
		}
		if waits[i] == 0 {
			found = append(found, r.Left)
		}
	}
	for ; len(found) > 0; found = found[1:] {
		if out[found[0]] {
			continue
		}
		out[found[0]] = true
		for i, r := range g.Rules {
			for _, s := range r.Right {
				if s != found[0] {
					continue
				}
				if waits[i]--; waits[i] == 0 {
					found = append(found, r.Left)
				}
			}
		}
	}
	return out
}

// deep tells whether v has a tree on whose ways down no nonterminal comes twice: whoever has a tree has such a one. It looks for it as the words say, and is slow.
func deep(g api.Grammar, v int, terminals bool, above ...int) bool {
	if slices.Contains(above, v) {
		return false
	}
	above = append(slices.Clip(above), v)
	return slices.ContainsFunc(gram.By(g, v), func(i int) bool {
		return !slices.ContainsFunc(g.Rules[i].Right, func(s int) bool {
			return s < 0 && !terminals || s >= 0 && !deep(g, s, terminals, above...)
		})
	})
}

// walk answers all to which one comes from v, in one step or more, by the pairs of steps.
func walk(steps [][2]int, v int) []bool {
	seen := make([]bool, 64)
	var visit func(int)
	visit = func(v int) {
		for _, s := range steps {
			if s[0] == v && !seen[s[1]] {
				seen[s[1]] = true
				visit(s[1])
			}
		}
	}
	visit(v)
	return seen
}

// pairs answers the steps that rules make: from Left to each nonterminal, if those of the other places that count are all nullable.
func pairs(g api.Grammar, counts func(other, place int) bool) (out [][2]int) {
	empty := treed(g, false)
	for _, r := range g.Rules {
		for place, v := range r.Right {
			fine := v >= 0
			for other, s := range r.Right {
				if other != place && counts(other, place) {
					fine = fine && s >= 0 && empty[max(s, 0)]
				}
			}
			if fine {
				out = append(out, [2]int{r.Left, v})
			}
		}
	}
	return out
}

func list(all []bool) (out []int) {
	for v, in := range all {
		if in {
			out = append(out, v)
		}
	}
	return out
}

func holdAgainstSecond(t *testing.T, g api.Grammar) api.Fault {
	t.Helper()
	if f := gram.Check(g); f.Code != 0 {
		wantFault(t, g, f.Code, f.At)
		return f
	}
	wantNullable(t, g, told(list(treed(g, false))))
	wantProductive(t, g, told(list(treed(g, true))))
	anyhow := pairs(g, func(other, place int) bool { return false })
	within := walk(anyhow, g.Start)
	within[g.Start] = true
	wantReachable(t, g, told(list(within)))
	alone := pairs(g, func(other, place int) bool { return true })
	ahead := pairs(g, func(other, place int) bool { return other < place })
	var round []int
	var corners [][]int
	for v := range g.Vars {
		if walk(alone, v)[v] {
			round = append(round, v)
		}
		corners = append(corners, list(walk(ahead, v)))
	}
	wantCyclic(t, g, told(round))
	wantCorners(t, g, toldAll(corners))
	return api.Fault{}
}

// holdAgainstDeep is for small grammars.
func holdAgainstDeep(t *testing.T, g api.Grammar) {
	t.Helper()
	var empty, some []int
	for v := range g.Vars {
		if deep(g, v, false) {
			empty = append(empty, v)
		}
		if deep(g, v, true) {
			some = append(some, v)
		}
	}
	wantNullable(t, g, told(empty))
	wantProductive(t, g, told(some))
}

// All grammars of two nonterminals and a terminal, with three rules of up to two symbols.
func TestAllSmallGrammars(t *testing.T) {
	rights := [][]int{nil}
	for a := -1; a <= 1; a++ {
		rights = append(rights, []int{a})
		for b := -1; b <= 1; b++ {
			rights = append(rights, []int{a, b})
		}
	}
	var rules []api.Rule
	for _, r := range rights {
		rules = append(rules, rule(0, r...), rule(1, r...))
	}
	for i, a := range rules {
		for k, b := range rules {
			for _, c := range rules {
				g := api.Grammar{Vars: 2, Terms: 1, Start: (i + k) % 2, Rules: []api.Rule{a, b, c}}
				holdAgainstSecond(t, g)
				holdAgainstDeep(t, g)
				if t.Failed() {
					return
				}
			}
		}
	}
}

// maker makes up grammars: of a thousand numbers so many are wild, which may be one more or less than they should.
type maker struct {
	*rand.Rand
	wild int
}

func (m *maker) number(low, high int) int {
	if m.Intn(1000) < m.wild {
		return []int{low - 1, low, high, high + 1}[m.Intn(4)]
	}
	return low + m.Intn(high-low+1)
}

func (m *maker) grammar(vars, rules, right int) api.Grammar {
	g := api.Grammar{Vars: m.number(1, vars), Terms: m.number(0, 2)}
	g.Start = m.number(0, max(g.Vars, 1)-1)
	for range m.Intn(rules + 1) {
		r := rule(m.number(0, max(g.Vars, 1)-1))
		for range m.Intn(right + 1) {
			s := m.number(0, max(g.Vars, 1)-1)
			if g.Terms > 0 && m.Intn(4) == 0 {
				s = m.number(-g.Terms, -1)
			}
			r.Right = append(r.Right, s)
		}
		g.Rules = append(g.Rules, r)
	}
	return g
}

func TestGrammarsMadeUp(t *testing.T) {
	m := &maker{Rand: rand.New(rand.NewSource(72))}
	for range 4000 {
		g := m.grammar(5, 9, 3)
		holdAgainstSecond(t, g)
		holdAgainstDeep(t, g)
		holdAgainstSecond(t, m.grammar(64, 160, 1+m.Intn(3)))
		if t.Failed() {
			return
		}
	}
}

func TestWildGrammarsMadeUp(t *testing.T) {
	seen := map[api.Fault]int{}
	m := &maker{Rand: rand.New(rand.NewSource(73)), wild: 30}
	for range 4000 {
		f := holdAgainstSecond(t, m.grammar(6, 12, 4))
		f.At = min(f.At, 1)
		seen[f]++
	}
	for _, f := range []api.Fault{{}, {Code: api.ErrRange, At: -1}, {Code: api.ErrRange, At: 0}, {Code: api.ErrRange, At: 1}} {
		if seen[f] < 50 {
			t.Errorf("fault %v was told %d times alone", f, seen[f])
		}
	}
}

// In whatever order the rules stand, and however often each: the same is so of nonterminals.
func TestOrderOfRules(t *testing.T) {
	m := &maker{Rand: rand.New(rand.NewSource(74))}
	for range 1000 {
		g := m.grammar(12, 24, 3)
		want := answers(g)
		g.Rules = append(slices.Clone(g.Rules), g.Rules...)
		m.Shuffle(len(g.Rules), func(i, k int) { g.Rules[i], g.Rules[k] = g.Rules[k], g.Rules[i] })
		if got := answers(g); got != want {
			t.Fatalf("%v: %s, in another order %s", g, got, want)
		}
	}
}

// answers tells all that is answered of a grammar.
func answers(g api.Grammar) string {
	s := ""
	for _, ask := range []face{Nullable, Productive, Reachable, Cyclic} {
		l, f := ask(g)
		s += fmt.Sprint(l, f)
	}
	l, f := Corners(g)
	return s + fmt.Sprint(l, f)
}

// readBytes makes a grammar of bytes, whatever they are: each is a number, the symbols of a rule stand behind how many there are.
func readBytes(data []byte) (g api.Grammar) {
	next := func() int {
		if len(data) == 0 {
			return 0
		}
		n := int(int8(data[0]))
		data = data[1:]
		return n
	}
	g.Vars, g.Terms, g.Start = next(), next(), next()
	for len(data) > 0 {
		r := rule(next())
		for range max(next(), 0) {
			r.Right = append(r.Right, next())
		}
		g.Rules = append(g.Rules, r)
	}
	return g
}

func FuzzFacts(f *testing.F) {
	f.Add([]byte{2, 1, 0, 0, 2, 0, 1, 1, 0, 0, 1, 255})
	f.Add([]byte{64, 16, 63, 63, 2, 63, 240, 0, 1, 63, 5, 0})
	f.Add([]byte{3, 0, 1, 0, 3, 1, 0, 2, 1, 1, 2, 2, 0, 1, 0, 0, 2, 1, 0})
	f.Add([]byte{0})
	f.Fuzz(func(t *testing.T, data []byte) { holdAgainstSecond(t, readBytes(data)) })
}

// What holds everywhere: what is handed in stays, and what is answered is new.

// roomy lays the lists of a grammar anew, with something behind the length of each that would make a difference.
func roomy(g api.Grammar) api.Grammar {
	rules := make([]api.Rule, 0, len(g.Rules)+2)
	for _, r := range g.Rules {
		right := append(make([]int, 0, len(r.Right)+2), r.Right...)
		right[:cap(right)][len(right)] = g.Vars - 1
		rules = append(rules, rule(r.Left, right...))
	}
	rules[:cap(rules)][len(rules)] = rule(g.Start, g.Start)
	rules[:cap(rules)][len(rules)+1] = rule(g.Start)
	g.Rules = rules
	return g
}

// memory tells all that lies in the lists of a grammar, behind their lengths, too.
func memory(g api.Grammar) (out []int) {
	out = append(out, g.Vars, g.Terms, g.Start, len(g.Rules), cap(g.Rules))
	for _, r := range g.Rules[:cap(g.Rules)] {
		out = append(out, r.Left, len(r.Right), cap(r.Right))
		out = append(out, r.Right[:cap(r.Right)]...)
	}
	return out
}

func TestNothingIsChangedNorReadBehindALength(t *testing.T) {
	m := &maker{Rand: rand.New(rand.NewSource(75)), wild: 3}
	for range 1000 {
		plain := m.grammar(8, 16, 3)
		g := roomy(plain)
		before := memory(g)
		if got, want := answers(g), answers(plain); got != want {
			t.Fatalf("%v: what lies behind its lists makes a difference: %s, want %s", plain, got, want)
		}
		if !reflect.DeepEqual(memory(g), before) {
			t.Fatalf("it was changed: %v", plain)
		}
	}
}

// scratch writes over a list, behind its length, too.
func scratch(l []int, with int) {
	l = l[:cap(l)]
	for i := range l {
		l[i] = with
	}
}

// Each leads to all, so that all lists are the same; and some that differ.
func TestNoTwoListsShareMemory(t *testing.T) {
	for _, g := range []api.Grammar{
		read(4, "0 > 1; 1 > 2; 2 > 3; 3 > 0"),
		read(4, "0 > 1 2 3; 1 >; 2 > 1 3; 3 > 1 1; 3 >"),
		read(3, "0 > 0; 1 > 1; 2 > 2 0"),
	} {
		before, want := memory(g), answers(g)
		for i := range g.Vars {
			l, _ := Corners(g)
			fresh, _ := Corners(g)
			scratch(l[i], -9)
			for k := range l {
				if k != i && !slices.Equal(l[k], fresh[k]) {
					t.Errorf("Corners of %v: the lists %d and %d share memory", g, i, k)
				}
				if k != i && slices.Contains(l[k][:cap(l[k])], -9) {
					t.Errorf("Corners of %v: the lists %d and %d share memory behind their lengths", g, i, k)
				}
			}
			clear(l[:cap(l)])
		}
		for _, ask := range []face{Nullable, Productive, Reachable, Cyclic} {
			l, _ := ask(g)
			scratch(l, -9)
		}
		if !slices.Equal(memory(g), before) {
			t.Errorf("%v: what is answered shares memory with what was handed in", g)
		}
		if answers(g) != want {
			t.Errorf("%v: asked again: %s, want %s", g, answers(g), want)
		}
	}
}

func TestNothingIsKept(t *testing.T) {
	g := read(3, "0 > 1 2; 1 >; 2 > 2 1")
	null, _ := Nullable(g)
	reach, _ := Reachable(g)
	corners, _ := Corners(g)
	g.Rules[0].Right[0] = 0
	g.Rules[1] = rule(2)
	if told(null) != "1" || told(reach) != "0 1 2" || toldAll(corners) != "1 2;;2" {
		t.Errorf("what was answered became %v, %v, %v", null, reach, corners)
	}
	wantNullable(t, g, "2")
	wantReachable(t, g, "0 1 2")
	wantCorners(t, g, "0;;1 2")
	wantFault(t, api.Grammar{Vars: 1, Rules: []api.Rule{rule(0, 1)}}, api.ErrRange, 0)
	wantCorners(t, g, "0;;1 2")
}
