package lines_test

import (
	"testing"

	"rostrum/api"
	"rostrum/lines"
)

// The chapter's terms, as plainly as they are written there, so that the package is held against something that shares no code with it.

// model is all that the calls may answer of a valid text.
type model struct {
	spans []api.Span
	bytes map[api.Pos]int // of each valid position
	poses map[int]api.Pos // of each byte that is not within a character
	wide  int             // the units of the longest line
}

// sizeOf: how many bytes the character has that begins with a byte.
func sizeOf(lead byte) int {
	switch {
	case lead < 0x80:
		return 1
	case lead < 0xE0:
		return 2
	case lead < 0xF0:
		return 3
	default:
		return 4
	}
}

// modelOf goes through a valid text once, byte by byte.
func modelOf(text string) model {
	m := model{bytes: map[api.Pos]int{}, poses: map[int]api.Pos{}}
	here, from := api.Pos{}, 0
	note := func(at int) {
		m.bytes[here] = at
		m.poses[at] = here
		m.wide = max(m.wide, here.Char)
	}
	for at := 0; at < len(text); {
		note(at)
		size := sizeOf(text[at])
		if text[at] == 0x0D || text[at] == 0x0A {
			if text[at] == 0x0D && at+1 < len(text) && text[at+1] == 0x0A {
				size = 2
				m.poses[at+1] = here
			}
			m.spans = append(m.spans, api.Span{From: from, To: at})
			here, from = api.Pos{Line: here.Line + 1}, at+size
		} else if size == 4 {
			here.Char += 2
		} else {
			here.Char++
		}
		at += size
	}
	note(len(text))
	m.spans = append(m.spans, api.Span{From: from, To: len(text)})
	return m
}

// someBytes: every byte, and some beyond both ends.
func someBytes(text string) []int {
	var l []int
	for at := -2; at <= len(text)+2; at++ {
		l = append(l, at)
	}
	return l
}

// somePoses: every valid position, and invalid ones beside all of them.
func (m model) somePoses() []api.Pos {
	var l []api.Pos
	for line := -1; line <= len(m.spans); line++ {
		for char := -1; char <= m.wide+1; char++ {
			l = append(l, api.Pos{Line: line, Char: char})
		}
	}
	return l
}

// before: by line, then Char.
func before(p, q api.Pos) bool {
	return p.Line < q.Line || p.Line == q.Line && p.Char < q.Char
}

// eachText visits the texts of up to so many pieces: line endings, and characters of all sizes.
func eachText(most int, visit func(text string)) {
	pieces := []string{"a", "\n", "\r", "\u00e9", "\u20ac", "\U0001f600"}
	var grow func(text string, count int)
	grow = func(text string, count int) {
		visit(text)
		if count == most {
			return
		}
		for _, p := range pieces {
			grow(text+p, count+1)
		}
	}
	grow("", 0)
}

// index: the index of a text that has one.
func index(t *testing.T, text string) *lines.Index {
	t.Helper()
	x, e := lines.New(text)
	if x == nil || e != api.OK {
		t.Fatalf("New of %.40q (%d bytes): an index: %v, %v", text, len(text), x != nil, e)
	}
	return x
}

// spansOf: the spans of all lines.
func spansOf(t *testing.T, x *lines.Index) []api.Span {
	t.Helper()
	var l []api.Span
	for n := range x.Lines() {
		s, e := x.Line(n)
		if e != api.OK {
			t.Fatalf("Line(%d) of %d lines: %v", n, x.Lines(), e)
		}
		l = append(l, s)
	}
	return l
}
