package token

import (
	"strings"

	"barbican/api"
)

// looking: the byte at a place of a text.
type looking func(at int) byte

// lookInto a text: behind its end stand 0s, which are of no token, so that whatever runs along the bytes stops there.
func lookInto(s string) looking {
	return func(at int) byte {
		if at >= len(s) {
			return 0
		}
		return s[at]
	}
}

func letter(b byte) bool { return 'a' <= b && b <= 'z' }

func digit(b byte) bool { return '0' <= b && b <= '9' }

func gap(b byte) bool { return b == ' ' || b == '\n' }

// runEnd: where the letters and digits that begin at a place end.
func runEnd(look looking, at int) int {
	for letter(look(at)) || digit(look(at)) {
		at++
	}
	return at
}

// tokenAt: the token of a text that begins at a place; false: none does.
func tokenAt(s string, look looking, at int) (api.Token, bool) {
	if end := runEnd(look, at); end > at {
		return wordOrDigit(s[at:end])
	}
	sign := longestSign(s[at:])
	return api.Token{Kind: api.Sign, Text: sign}, sign != ""
}

// wordOrDigit clones the text, as what is answered shares no memory with the source.
func wordOrDigit(run string) (api.Token, bool) {
	if Word(run) {
		return api.Token{Kind: api.Word, Text: strings.Clone(run)}, true
	}
	_, ok := Number(run)
	return api.Token{Kind: api.Digit, Text: strings.Clone(run)}, ok
}

// longestSign that a text begins with; empty: it begins with none.
func longestSign(s string) string {
	longest := ""
	for sign := range signs {
		if len(sign) > len(longest) && strings.HasPrefix(s, sign) {
			longest = sign
		}
	}
	return longest
}

// signs, one by one.
func signs(yield func(string) bool) {
	for _, sign := range [...]string{
		"<<", ">>", "==", "{", "}", "(", ")", "[", "]", ",", ";", ".", "=", "+", "-", "*", "&", "|", "^", "<",
	} {
		if !yield(sign) {
			return
		}
	}
}
