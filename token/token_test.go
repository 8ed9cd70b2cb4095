package token

import (
	"reflect"
	"regexp"
	"strings"
	"testing"

	"graftwork/api"
)

func name(at int, text string) api.Token {
	return api.Token{Kind: api.TokName, At: at, Text: text}
}

func term(at int, text string) api.Token {
	return api.Token{Kind: api.TokTerm, At: at, Text: text}
}

func sign(at int, text string) api.Token {
	return api.Token{Kind: api.TokSign, At: at, Text: text}
}

// short keeps what a test tells of a long text readable.
func short(s string) string {
	if len(s) > 60 {
		return s[:60] + ".."
	}
	return s
}

func wantTokens(t *testing.T, src string, want ...api.Token) {
	t.Helper()
	got, f := Scan(src)
	if f != (api.Fault{}) {
		t.Errorf("Scan(%q): fault %v", short(src), f)
		return
	}
	if len(got) != len(want) || len(want) > 0 && !reflect.DeepEqual(got, want) {
		t.Errorf("Scan(%q): %v, want %v", short(src), got, want)
	}
}

func wantFault(t *testing.T, src string, code, at int) {
	t.Helper()
	got, f := Scan(src)
	if want := (api.Fault{Code: code, At: at}); f != want {
		t.Errorf("Scan(%q): fault %v, want %v", short(src), f, want)
	}
	if len(got) != 0 {
		t.Errorf("Scan(%q): %v beside a fault", short(src), got)
	}
}

// P1.1: ordinary texts.

func TestScanOfTheExample(t *testing.T) {
	wantTokens(t, `S = "a" # x`, name(0, "S"), sign(2, "="), term(4, "a"))
}

func TestScanWithoutTokens(t *testing.T) {
	for _, src := range []string{"", " ", " \t\r\n", "#", "# x", "#\n", "##\n#\n", " # x\n\t# y"} {
		wantTokens(t, src)
	}
}

func TestScanEverySign(t *testing.T) {
	const all = "=;|()[]{}<>"
	var want []api.Token
	for i := range len(all) {
		wantTokens(t, all[i:i+1], sign(0, all[i:i+1]))
		want = append(want, sign(i, all[i:i+1]))
	}
	wantTokens(t, all, want...)
}

func TestScanTokensWithoutBlanksBetween(t *testing.T) {
	wantTokens(t, `A="a""b"B;`, name(0, "A"), sign(1, "="), term(2, "a"), term(5, "b"), name(8, "B"), sign(9, ";"))
}

func TestScanEveryBlank(t *testing.T) {
	wantTokens(t, "\r\n a\tb\rc\nd \t", name(3, "a"), name(5, "b"), name(7, "c"), name(9, "d"))
}

func TestScanNamesGoOnByLettersAndDigits(t *testing.T) {
	wantTokens(t, "azAZ_09 _ z9(Z_", name(0, "azAZ_09"), name(8, "_"), name(10, "z9"), sign(12, "("), name(13, "Z_"))
}

func TestScanTerminalsOfAnySuchByte(t *testing.T) {
	for b := range 256 {
		src := `"` + string([]byte{byte(b)}) + `"`
		if 32 <= b && b <= 126 && b != '"' {
			wantTokens(t, src, term(0, src[1:2]))
		} else {
			wantFault(t, src, api.ErrText, 0)
		}
	}
}

// P1.1: the edges.

func TestScanLongNames(t *testing.T) {
	long := strings.Repeat("x", api.MaxName)
	wantTokens(t, long, name(0, long))
	wantTokens(t, long+";", name(0, long), sign(api.MaxName, ";"))
	wantTokens(t, long+" y", name(0, long), name(api.MaxName+1, "y"))
	wantFault(t, long+"y", api.ErrName, 0)
	wantFault(t, long+"9", api.ErrName, 0)
	wantFault(t, "S = "+long+"_;", api.ErrName, 4)
	wantFault(t, strings.Repeat("x", api.MaxText), api.ErrName, 0)
}

func TestScanLongTerminals(t *testing.T) {
	long := strings.Repeat("9", api.MaxName)
	wantTokens(t, `"`+long+`"`, term(0, long))
	wantTokens(t, `"`+long+`"`+"x", term(0, long), name(api.MaxName+2, "x"))
	wantFault(t, `"`+long+`9"`, api.ErrText, 0)
	wantFault(t, `"`+long, api.ErrText, 0)
	wantFault(t, `S = "`+long+` ";`, api.ErrText, 4)
}

func TestScanLongTexts(t *testing.T) {
	blank := strings.Repeat(" ", api.MaxText)
	wantTokens(t, blank)
	wantTokens(t, blank[1:]+"x", name(api.MaxText-1, "x"))
	wantFault(t, blank+" ", api.ErrMany, api.MaxText)
	wantFault(t, blank+blank, api.ErrMany, api.MaxText)
	full := strings.Repeat(";", api.MaxText)
	if got, f := Scan(full); len(got) != api.MaxText || f != (api.Fault{}) {
		t.Errorf("%d tokens, fault %v", len(got), f)
	}
	wantFault(t, full+";", api.ErrMany, api.MaxText)
}

func TestScanRemarks(t *testing.T) {
	wantTokens(t, "a#b\nc", name(0, "a"), name(4, "c"))
	wantTokens(t, "a # b # c \" @ \x00\xff", name(0, "a"))
	wantTokens(t, "#\n#\n;#", sign(4, ";"))
	wantTokens(t, "a # b\rc\n d", name(0, "a"), name(9, "d"))
	wantTokens(t, "\"a\"# \"b\"\n\"c\"", term(0, "a"), term(9, "c"))
	wantTokens(t, "#"+strings.Repeat("x", api.MaxText-1))
	wantFault(t, "# @\n@", api.ErrText, 4)
}

func TestScanRemarkSignsInTerminals(t *testing.T) {
	wantTokens(t, `"#"`, term(0, "#"))
	wantTokens(t, `"a # b";`, term(0, "a # b"), sign(7, ";"))
	wantTokens(t, `"#"#"`, term(0, "#"))
	wantFault(t, "\"a#\n\"", api.ErrText, 0)
}

// P1.1: wrong inputs.

func TestScanBytesThatBeginNothing(t *testing.T) {
	begins := "\"# \t\r\n=;|()[]{}<>_abcdefghijklmnopqrstuvwxyzABCDEFGHIJKLMNOPQRSTUVWXYZ"
	for b := range 256 {
		if strings.IndexByte(begins, byte(b)) < 0 {
			one := string([]byte{byte(b)})
			wantFault(t, one, api.ErrText, 0)
			wantFault(t, "= "+one, api.ErrText, 2)
		}
	}
	wantFault(t, "S = 9a;", api.ErrText, 4)
	wantFault(t, "S\v=", api.ErrText, 1)
	wantFault(t, "S\u00e9", api.ErrText, 1)
}

func TestScanQuotesThatBeginNoTerminal(t *testing.T) {
	for _, tail := range []string{`"`, `""`, `"a`, "\"a\n\"", "\"a\tb\"", "\"\x7f\"", "\"\u00e9\"", `"""`} {
		wantFault(t, tail, api.ErrText, 0)
		wantFault(t, `A "x" `+tail, api.ErrText, 6)
	}
	wantFault(t, `"a" "`, api.ErrText, 4)
	wantFault(t, `"a"b"`, api.ErrText, 4)
}

func TestScanTellsTheFirstPlace(t *testing.T) {
	long := strings.Repeat("n", api.MaxName+1)
	wantFault(t, long+" @", api.ErrName, 0)
	wantFault(t, "@ "+long, api.ErrText, 0)
	wantFault(t, `; "" `+long, api.ErrText, 2)
	wantFault(t, "; "+long+` ""`, api.ErrName, 2)
	wantFault(t, "a ? !", api.ErrText, 2)
	wantFault(t, "@"+strings.Repeat(" ", api.MaxText), api.ErrMany, api.MaxText)
	wantFault(t, long+strings.Repeat(" ", api.MaxText), api.ErrMany, api.MaxText)
}

// The faces Name and Term.

func TestName(t *testing.T) {
	long := strings.Repeat("x", api.MaxName)
	for _, s := range []string{"a", "z", "A", "Z", "_", "a0", "_9", "S1_b", long} {
		if !Name(s) {
			t.Errorf("%q is no name", s)
		}
	}
	for _, s := range []string{"", "9", "9a", " ", " a", "a ", "a b", "a#", "#", "a\n", "\"a\"", "a-b", "a=", "\u00e9", "a\xff", "@", "[", "`", "{", "a/", "a:", long + "x"} {
		if Name(s) {
			t.Errorf("%q is a name", s)
		}
	}
}

func TestTerm(t *testing.T) {
	long := strings.Repeat(" ", api.MaxName)
	for _, s := range []string{"a", " ", "~", "9", "#", "a # b", "=;|", "'", "\\", long} {
		if !Term(s) {
			t.Errorf("%q may not stand between quotes", s)
		}
	}
	for _, s := range []string{"", "\"", "a\"", "\"a", "\n", "a\n", "\t", "\x1f", "\x7f", "\x00", "\x80", "\xff", "\u00e9", long + " "} {
		if Term(s) {
			t.Errorf("%q may stand between quotes", s)
		}
	}
}

func TestNameAndTermByEachByte(t *testing.T) {
	names := regexp.MustCompile(`^[a-zA-Z_][a-zA-Z_0-9]{0,11}$`)
	terms := regexp.MustCompile(`^[ !#-~]{1,12}$`)
	for b := range 256 {
		one := string([]byte{byte(b)})
		for _, s := range []string{one, "a" + one, one + "a", "a" + one + "a"} {
			if got, want := Name(s), names.MatchString(s); got != want {
				t.Errorf("Name(%q): %v", s, got)
			}
			if got, want := Term(s), terms.MatchString(s); got != want {
				t.Errorf("Term(%q): %v", s, got)
			}
		}
	}
}

// What is answered is the caller's own.

func TestScanAnswersNewMemory(t *testing.T) {
	const src = `S = "a";`
	first, _ := Scan(src)
	for i := range first {
		first[i] = api.Token{}
	}
	wantTokens(t, src, name(0, "S"), sign(2, "="), term(4, "a"), sign(7, ";"))
}

// P1: no call panics, every call ends, and the answer hangs on the argument alone.

// plainScan is the chapter said once more, by patterns, to hold Scan against.
func plainScan(src string) ([]api.Token, api.Fault) {
	var out []api.Token
	at := 0
	for at < len(src) {
		rest := src[at:]
		if m := blankPattern.FindString(rest); m != "" {
			at += len(m)
			continue
		}
		m := tokenPattern.FindStringSubmatch(rest)
		switch {
		case m == nil:
			return nil, api.Fault{Code: api.ErrText, At: at}
		case len(m[1]) > 12:
			return nil, api.Fault{Code: api.ErrName, At: at}
		case m[1] != "":
			out = append(out, name(at, m[1]))
		case m[2] != "":
			out = append(out, term(at, m[2]))
		default:
			out = append(out, sign(at, m[3]))
		}
		at += len(m[0])
	}
	return out, api.Fault{}
}

var (
	blankPattern = regexp.MustCompile(`^(?:[ \t\r\n]|#[^\n]*)+`)
	tokenPattern = regexp.MustCompile(`^(?:([a-zA-Z_][a-zA-Z_0-9]*)|"([ !#-~]{1,12})"|([=;|()\[\]{}<>]))`)
)

func holdAgainstPlain(t *testing.T, src string) {
	t.Helper()
	want, wantFault := plainScan(src)
	for range 2 {
		got, f := Scan(src)
		if f != wantFault || len(got) != len(want) || len(want) > 0 && !reflect.DeepEqual(got, want) {
			t.Fatalf("Scan(%q): %v %v, want %v %v", src, got, f, want, wantFault)
		}
	}
}

func TestScanOfAllShortTexts(t *testing.T) {
	bytes := []string{"a", "9", "\"", "#", "\n", " ", "=", "@", "\xff"}
	texts := []string{""}
	for range 5 {
		var longer []string
		for _, s := range texts {
			for _, b := range bytes {
				longer = append(longer, s+b)
			}
		}
		for _, s := range longer {
			holdAgainstPlain(t, s)
		}
		texts = longer
	}
}

func TestScanOfAllPairsOfBytes(t *testing.T) {
	for a := range 256 {
		for b := range 256 {
			holdAgainstPlain(t, string([]byte{byte(a), byte(b)}))
		}
	}
}

func TestScanOfPieces(t *testing.T) {
	pieces := []string{"abcdefghijkl", "m", "\"abcdefghijkl\"", "\"abcdefghijklm\"", "\"#\"", "#x", "\n", "\"", "<", "\t"}
	for _, a := range pieces {
		for _, b := range pieces {
			for _, c := range pieces {
				for _, d := range pieces {
					holdAgainstPlain(t, a+b+c+d)
				}
			}
		}
	}
}

func TestNoCallPanicsOnHugeTexts(t *testing.T) {
	for _, piece := range []string{"a", "9", "\"", "#", "\n", "\x00", "\xff"} {
		s := strings.Repeat(piece, 1<<22)
		wantFault(t, s, api.ErrMany, api.MaxText)
		if Name(s) || Term(s) {
			t.Errorf("a text of %d times %q stands", 1<<22, piece)
		}
	}
}

func FuzzScan(f *testing.F) {
	for _, s := range []string{"", `S = "a" # x`, "\"#\"#\"\n@", "abcdefghijklm"} {
		f.Add(s)
	}
	f.Fuzz(func(t *testing.T, src string) {
		if len(src) <= api.MaxText {
			holdAgainstPlain(t, src)
		}
		Name(src)
		Term(src)
	})
}
