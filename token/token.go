// Package token: see doc/01-token.md.
package token

import (
	"strings"

	"graftwork/api"
)

const (
	blanks  = " \t\r\n"
	signs   = "=;|()[]{}<>"
	quote   = '"'
	remark  = '#'
	newline = '\n'
)

// Name tells whether s may stand as a name.
func Name(s string) bool {
	return fits(s) && isLetter(s[0]) && over(s, 0, inName) == len(s)
}

// Term tells whether s may stand between quotes.
func Term(s string) bool {
	return fits(s) && over(s, 0, inTerm) == len(s)
}

// Scan answers all tokens of src, from the front, or the first place at which it goes wrong.
func Scan(src string) ([]api.Token, api.Fault) {
	if len(src) > api.MaxText {
		return nil, api.Fault{Code: api.ErrMany, At: api.MaxText}
	}
	var tokens []api.Token
	at := skip(src, 0)
	for at < len(src) {
		t, next, code := read(src, at)
		if code != 0 {
			return nil, api.Fault{Code: code, At: at}
		}
		tokens = append(tokens, t)
		at = skip(src, next)
	}
	return tokens, api.Fault{}
}

// over answers the first place from at on whose byte goesOn does not take.
func over(src string, at int, goesOn func(byte) bool) int {
	for at < len(src) && goesOn(src[at]) {
		at++
	}
	return at
}

// oneOf makes a scan go on by the bytes of set.
func oneOf(set string) func(byte) bool {
	return func(b byte) bool { return strings.IndexByte(set, b) >= 0 }
}

// upTo makes a scan go on till it meets end.
func upTo(end byte) func(byte) bool {
	return func(b byte) bool { return b != end }
}

func inName(b byte) bool {
	return isLetter(b) || '0' <= b && b <= '9'
}

func inTerm(b byte) bool {
	return 32 <= b && b <= 126 && b != quote
}

func isLetter(b byte) bool {
	return 'a' <= b && b <= 'z' || 'A' <= b && b <= 'Z' || b == '_'
}

// fits: names and what stands between quotes are bound alike.
func fits(s string) bool {
	return 1 <= len(s) && len(s) <= api.MaxName
}

// skip answers the place of the first byte from at on that is neither blank nor in a remark.
func skip(src string, at int) int {
	at = over(src, at, oneOf(blanks))
	for at < len(src) && src[at] == remark {
		at = over(src, at, upTo(newline))
		at = over(src, at, oneOf(blanks))
	}
	return at
}

// read answers the token that begins at a place of src, and the place behind it; or the code of what is wrong with it.
func read(src string, at int) (t api.Token, next, code int) {
	isSign := oneOf(signs)
	switch b := src[at]; {
	case isLetter(b):
		return readName(src, at)
	case b == quote:
		return readTerm(src, at)
	case isSign(b):
		return made(api.TokSign, at, src[at:at+1]), at + 1, 0
	}
	return api.Token{}, 0, api.ErrText
}

func readName(src string, at int) (t api.Token, next, code int) {
	end := over(src, at, inName)
	text := src[at:end]
	if !fits(text) {
		return api.Token{}, 0, api.ErrName
	}
	return made(api.TokName, at, text), end, 0
}

func readTerm(src string, at int) (t api.Token, next, code int) {
	end := over(src, at+1, inTerm)
	text := src[at+1 : end]
	if !fits(text) || end == len(src) || src[end] != quote {
		return api.Token{}, 0, api.ErrText
	}
	return made(api.TokTerm, at, text), end + 1, 0
}

// made copies the text, so that a token does not keep the whole source.
func made(kind, at int, text string) api.Token {
	return api.Token{Kind: kind, At: at, Text: strings.Clone(text)}
}
