package relex

import (
	"strings"

	"rostrum/api"
	"rostrum/lex"
)

// reach is up to how many bytes behind a token decide where it ends: that 1.5 ends ahead of e+x is settled by the x alone.
const reach = 3

// lexed is a text that Tokens allows, with its tokens.
type lexed struct {
	text   string
	tokens []api.Token
}

// read divides a text from its first byte on.
func read(text string) (lexed, api.Errno) {
	l, err := lex.Tokens(text)
	if err != api.OK {
		return lexed{}, err
	}
	return lexed{text: text, tokens: l}, api.OK
}

// edit is the text after an edit; only what the edit may have changed is divided again, up to the end.
func (x lexed) edit(e api.Edit) (lexed, api.Errno) {
	if !isSpan(e.Span, len(x.text)) {
		return lexed{}, api.ErrArg
	}
	text := replaced(x.text, e)
	// What is divided again may be short enough where the whole is not.
	if len(text) > api.MaxText {
		return lexed{}, api.ErrTooLarge
	}
	stay, at := x.before(e.Span.From)
	rest, err := lex.Tokens(text[at:])
	if err != api.OK {
		return lexed{}, err
	}
	l := append(stay, rest...)
	refer(l, text)
	return lexed{text: text, tokens: l}, api.OK
}

// before are the tokens that no edit from a byte on can change, and where they end. They are cut so that appending to them leaves the tokens behind them as they are.
func (x lexed) before(from int) ([]api.Token, int) {
	n, end := 0, 0
	for _, t := range x.tokens {
		if end+len(t.Text) > from-reach {
			break
		}
		n, end = n+1, end+len(t.Text)
	}
	return x.tokens[:n:n], end
}

// refer makes tokens parts of the text that they are the tokens of: otherwise, after many edits, one that has stayed since the first would keep the first text in memory, and so on.
func refer(l []api.Token, text string) {
	for i, t := range l {
		l[i].Text, text = text[:len(t.Text)], text[len(t.Text):]
	}
}

// replaced is a text after an edit of one of its spans. It is new memory even where the edit changes nothing, as the sum of the parts would not be.
func replaced(text string, e api.Edit) string {
	var result strings.Builder
	result.WriteString(text[:e.Span.From])
	result.WriteString(e.Text)
	result.WriteString(text[e.Span.To:])
	return result.String()
}

// isSpan says whether a span is one of a text of so many bytes.
func isSpan(s api.Span, size int) bool {
	return 0 <= s.From && s.From <= s.To && s.To <= size
}
