package rope_test

import (
	"math/bits"
	"testing"

	"rostrum/api"
	"rostrum/rope"
)

// The chapter's terms over a plain string, so that the package is held against something that shares no code with it.

// model is all that the calls may answer of a text.
type model struct {
	text   string
	begins []int // of each line
	ahead  []int // by byte, and at the end
}

// modelOf goes through a text once, byte by byte.
func modelOf(text string) model {
	m := model{text: text, begins: []int{0}}
	for at := range len(text) {
		m.ahead = append(m.ahead, len(m.begins)-1)
		if text[at] == 0x0A {
			m.begins = append(m.begins, at+1)
		}
	}
	m.ahead = append(m.ahead, len(m.begins)-1)
	return m
}

// replaced: a text in which another one stands in the place of a span.
func replaced(text string, x api.Span, s string) string {
	return text[:x.From] + s + text[x.To:]
}

// bound: how deep a rope of so many bytes may be.
func bound(size int) int {
	if size == 0 {
		return 0
	}
	return 2 + 2*bits.Len(uint(size))
}

// depthHolds: P3.3, and that a rope with bytes has a depth.
func depthHolds(t *testing.T, r *rope.Rope) {
	t.Helper()
	if d := r.Depth(); d > bound(r.Len()) || (d == 0) != (r.Len() == 0) || d < 0 {
		t.Fatalf("depth %d of %d bytes", d, r.Len())
	}
}

// counts: what is cheap to ask, against a text.
func counts(t *testing.T, r *rope.Rope, text string) {
	t.Helper()
	depthHolds(t, r)
	if r.Len() != len(text) {
		t.Fatalf("Len: %d, not %d", r.Len(), len(text))
	}
	if r.String() != text {
		t.Fatalf("String: %.60q, not %.60q", r.String(), text)
	}
}

// holds: every call but Replace, at every line, at every byte and for every span of some ends.
func holds(t *testing.T, r *rope.Rope, text string) {
	t.Helper()
	counts(t, r, text)
	m := modelOf(text)
	if r.Ends() != len(m.begins)-1 {
		t.Fatalf("Ends of %.60q: %d, not %d", text, r.Ends(), len(m.begins)-1)
	}
	for n, want := range m.begins {
		if at, e := r.Line(n); at != want || e != api.OK {
			t.Fatalf("Line(%d) of %.60q: %d, %v; not %d", n, text, at, e, want)
		}
	}
	for at, want := range m.ahead {
		if n, e := r.Ahead(at); n != want || e != api.OK {
			t.Fatalf("Ahead(%d) of %.60q: %d, %v; not %d", at, text, n, e, want)
		}
	}
	ends := someEnds(len(text))
	for i, from := range ends {
		for _, to := range ends[i:] {
			if s, e := r.Slice(api.Span{From: from, To: to}); s != text[from:to] || e != api.OK {
				t.Fatalf("Slice(%d to %d) of %.60q: %.60q, %v", from, to, text, s, e)
			}
		}
	}
}

// someEnds: increasing places of a text of so many bytes: all of a short one; of a longer one both ends and places between.
func someEnds(size int) []int {
	step := max(1, size/23)
	var l []int
	for at := 0; at < size; at += step {
		l = append(l, at)
	}
	if size > 23 {
		l = append(l, size-1)
	}
	return append(l, size)
}

// refuses: the wrong arguments of each call, none of which may change the rope.
func refuses(t *testing.T, r *rope.Rope) {
	t.Helper()
	text := r.String()
	for _, x := range wrongSpans(r.Len()) {
		if s, e := r.Slice(x); s != "" || e != api.ErrArg {
			t.Errorf("Slice(%v) of %d bytes: %.60q, %v", x, len(text), s, e)
		}
		for _, s := range []string{"", "x", full + "x"} {
			if q, e := r.Replace(x, s); q != nil || e != api.ErrArg {
				t.Errorf("Replace(%v) of %d bytes by %d: a rope: %v, %v", x, len(text), len(s), q != nil, e)
			}
		}
	}
	for _, n := range []int{least, -2, -1, r.Ends() + 1, r.Ends() + 2, most} {
		if at, e := r.Line(n); at != 0 || e != api.ErrArg {
			t.Errorf("Line(%d) of %d line endings: %d, %v", n, r.Ends(), at, e)
		}
	}
	for _, at := range []int{least, -2, -1, r.Len() + 1, r.Len() + 2, most} {
		if n, e := r.Ahead(at); n != 0 || e != api.ErrArg {
			t.Errorf("Ahead(%d) of %d bytes: %d, %v", at, len(text), n, e)
		}
	}
	if r.String() != text {
		t.Errorf("what was refused changed %.60q to %.60q", text, r.String())
	}
}

// wrongSpans: spans that a text of so many bytes does not have.
func wrongSpans(size int) []api.Span {
	return []api.Span{
		{From: -1, To: 0}, {From: -1, To: size}, {From: -1, To: -1}, {From: 0, To: -1},
		{From: 1, To: 0}, {From: size, To: size - 1},
		{From: 0, To: size + 1}, {From: size, To: size + 1}, {From: size + 1, To: size + 1}, {From: size + 1, To: size},
		{From: least, To: most}, {From: most, To: least}, {From: least, To: least}, {From: most, To: most},
		{From: least, To: 0}, {From: 0, To: least}, {From: 0, To: most}, {From: most, To: 0},
	}
}

// numbers: the same ones in every run, and unlike enough.
type numbers uint64

// below: the next one, from 0 to less than n.
func (x *numbers) below(n int) int {
	*x = *x*6364136223846793005 + 1442695040888963407
	return int(uint64(*x) >> 33 % uint64(n))
}

// text: so many bytes, of any value, with a line ending among about eight.
func (x *numbers) text(size int) string {
	b := make([]byte, size)
	for i := range b {
		b[i] = byte(x.below(256))
		if x.below(8) == 0 {
			b[i] = 0x0A
		}
	}
	return string(b)
}

// span: of a text of so many bytes, at most so many of them.
func (x *numbers) span(size, most int) api.Span {
	from := x.below(size + 1)
	return api.Span{From: from, To: from + x.below(min(most, size-from)+1)}
}

// eachText visits the texts of up to so many bytes: a letter, a line ending, a byte that is none, one that is no UTF-8.
func eachText(most int, visit func(text string)) {
	var grow func(text string)
	grow = func(text string) {
		visit(text)
		if len(text) == most {
			return
		}
		for _, b := range []string{"a", "\n", "\r", "\xff"} {
			grow(text + b)
		}
	}
	grow("")
}

// of: the rope of a text that has one.
func of(t *testing.T, text string) *rope.Rope {
	t.Helper()
	r, e := rope.Of(text)
	if r == nil || e != api.OK {
		t.Fatalf("Of %.60q (%d bytes): a rope: %v, %v", text, len(text), r != nil, e)
	}
	return r
}

// edited: the rope after an edit that is allowed.
func edited(t *testing.T, r *rope.Rope, x api.Span, s string) *rope.Rope {
	t.Helper()
	q, e := r.Replace(x, s)
	if q == nil || e != api.OK {
		t.Fatalf("Replace(%v) of %d bytes by %d: a rope: %v, %v", x, r.Len(), len(s), q != nil, e)
	}
	return q
}
