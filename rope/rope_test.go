package rope_test

import (
	"math"
	"strings"
	"testing"

	"rostrum/api"
	"rostrum/rope"
)

const (
	least = math.MinInt
	most  = math.MaxInt
)

// full has as many bytes as a rope may have, with a line ending at every seventh.
var full = strings.Repeat("let x\r\n", api.MaxText/7+1)[:api.MaxText]

// P3.1, P3.2: the chapter's examples.
func TestExamples(t *testing.T) {
	r := of(t, "one\ntwo\n")
	if r.Len() != 8 || r.Ends() != 2 {
		t.Errorf("Len %d, Ends %d", r.Len(), r.Ends())
	}
	for n, want := range []int{0, 4, 8} {
		if at, e := r.Line(n); at != want || e != api.OK {
			t.Errorf("Line(%d): %d, %v", n, at, e)
		}
	}
	if at, e := r.Line(3); at != 0 || e != api.ErrArg {
		t.Errorf("Line(3): %d, %v", at, e)
	}
	for at, want := range []int{0, 0, 0, 0, 1, 1, 1, 1, 2} {
		if n, e := r.Ahead(at); n != want || e != api.OK {
			t.Errorf("Ahead(%d): %d, %v", at, n, e)
		}
	}
	q := edited(t, r, api.Span{From: 3, To: 4}, "--")
	if q.String() != "one--two\n" || q.Ends() != 1 {
		t.Errorf("Replace: %q, Ends %d", q.String(), q.Ends())
	}
	if r.String() != "one\ntwo\n" {
		t.Errorf("the first one became %q", r.String())
	}
	if s, e := r.Slice(api.Span{From: 5, To: 3}); s != "" || e != api.ErrArg {
		t.Errorf("Slice(5 to 3): %q, %v", s, e)
	}
}

// P3.1: all short texts; no byte but 0A ends a line.
func TestShortTexts(t *testing.T) {
	eachText(5, func(text string) {
		r := of(t, text)
		holds(t, r, text)
	})
	for b := range 256 {
		text := string([]byte{'a', byte(b), 'b'})
		holds(t, of(t, text), text)
	}
	for _, text := range []string{"\u2028", "\u0085", "\u010a", "\U0001000a", "\r\n", "\n\r", "\v\f"} {
		holds(t, of(t, text), text)
	}
}

// P3.1: texts about as long as one piece and as a few, up to the longest.
func TestLongTexts(t *testing.T) {
	x := numbers(1)
	sizes := []int{api.MaxText - 1, api.MaxText}
	for _, size := range []int{16, 64, 128, 256, 512, 768, 1024, 2048, 4096} {
		sizes = append(sizes, size-1, size, size+1)
	}
	for _, size := range sizes {
		text := x.text(size)
		holds(t, of(t, text), text)
		refuses(t, of(t, text))
	}
	holds(t, of(t, full), full)
	ends := strings.Repeat("\n", api.MaxText)
	holds(t, of(t, ends), ends)
	none := strings.Repeat("\xff", api.MaxText)
	holds(t, of(t, none), none)
}

// P3.1: a text that is too long.
func TestOfRefuses(t *testing.T) {
	for _, text := range []string{full + "x", full + "\n", full + full, strings.Repeat("\xff", api.MaxText+1)} {
		if r, e := rope.Of(text); r != nil || e != api.ErrTooLarge {
			t.Errorf("Of %d bytes: a rope: %v, %v", len(text), r != nil, e)
		}
	}
}

// P3.1, P3.2: wrong spans, lines and places, each of them ahead of a result that is too long.
func TestWrongArguments(t *testing.T) {
	for _, text := range []string{"", "a", "\n", "one\ntwo\n", "\xff\xfe", full} {
		refuses(t, of(t, text))
	}
	r := edited(t, of(t, full), api.Span{From: 100, To: api.MaxText - 100}, "\n")
	refuses(t, r)
	refuses(t, edited(t, r, api.Span{From: 0, To: r.Len()}, ""))
}

// R1, P3.1, P3.3: calls on nil, with arguments right and wrong.
func TestNil(t *testing.T) {
	var r *rope.Rope
	if r.Len() != 0 || r.Ends() != 0 || r.Depth() != 0 || r.String() != "" {
		t.Errorf("of nil: %d, %d, %d, %q", r.Len(), r.Ends(), r.Depth(), r.String())
	}
	for _, x := range append(wrongSpans(0), api.Span{}) {
		if s, e := r.Slice(x); s != "" || e != api.ErrNil {
			t.Errorf("Slice(%v) of nil: %q, %v", x, s, e)
		}
		for _, s := range []string{"", "x", full + "x"} {
			if q, e := r.Replace(x, s); q != nil || e != api.ErrNil {
				t.Errorf("Replace(%v) of nil: a rope: %v, %v", x, q != nil, e)
			}
		}
	}
	for _, n := range []int{least, -1, 0, 1, most} {
		if at, e := r.Line(n); at != 0 || e != api.ErrNil {
			t.Errorf("Line(%d) of nil: %d, %v", n, at, e)
		}
		if k, e := r.Ahead(n); k != 0 || e != api.ErrNil {
			t.Errorf("Ahead(%d) of nil: %d, %v", n, k, e)
		}
	}
}

// R1: a rope that no call made.
func TestNotMadeByACall(t *testing.T) {
	r := &rope.Rope{}
	_, _, _, _ = r.Len(), r.Ends(), r.Depth(), r.String()
	for _, x := range append(wrongSpans(0), api.Span{}) {
		_, _ = r.Slice(x)
		_, _ = r.Replace(x, "x\n")
	}
	for _, n := range []int{least, -1, 0, 1, most} {
		_, _ = r.Line(n)
		_, _ = r.Ahead(n)
	}
}

// P3.1 to P3.3: the empty rope, made as such and by an edit.
func TestEmpty(t *testing.T) {
	for _, r := range []*rope.Rope{
		of(t, ""),
		edited(t, of(t, ""), api.Span{}, ""),
		edited(t, of(t, "a\n"), api.Span{From: 0, To: 2}, ""),
		edited(t, of(t, full), api.Span{From: 0, To: api.MaxText}, ""),
	} {
		holds(t, r, "")
		refuses(t, r)
		holds(t, edited(t, r, api.Span{}, "a\nb"), "a\nb")
		holds(t, edited(t, r, api.Span{}, full), full)
	}
}

// P3.2: every edit of every short text.
func TestShortEdits(t *testing.T) {
	var texts []string
	eachText(2, func(text string) { texts = append(texts, text) })
	eachText(4, func(text string) {
		r := of(t, text)
		for from := 0; from <= len(text); from++ {
			for to := from; to <= len(text); to++ {
				for _, s := range texts {
					x := api.Span{From: from, To: to}
					counts(t, edited(t, r, x, s), replaced(text, x, s))
				}
			}
		}
		holds(t, r, text)
	})
}

// P3.2: spans with their ends around the places where pieces may meet, by texts that are short, long and none.
func TestLongEdits(t *testing.T) {
	x := numbers(2)
	text := x.text(3000)
	r := of(t, text)
	var ends []int
	for _, at := range []int{0, 128, 256, 512, 768, 1024, 2048, 3000} {
		for _, near := range []int{at - 1, at, at + 1} {
			if near >= 0 && near <= len(text) {
				ends = append(ends, near)
			}
		}
	}
	for _, size := range []int{0, 1, 2, 127, 128, 255, 256, 257, 511, 512, 513, 5000} {
		s := x.text(size)
		for i, from := range ends {
			for _, to := range ends[i:] {
				span := api.Span{From: from, To: to}
				counts(t, edited(t, r, span, s), replaced(text, span, s))
			}
		}
		holds(t, edited(t, r, api.Span{From: 511, To: 1025}, s), replaced(text, api.Span{From: 511, To: 1025}, s))
	}
	holds(t, r, text)
}

// P3.2: results that have as many bytes as there may be, and more.
func TestLongestResults(t *testing.T) {
	r := of(t, full)
	for _, c := range []struct {
		from, to, size int
		e              api.Errno
	}{
		{0, 0, 0, api.OK},
		{0, 0, 1, api.ErrTooLarge},
		{api.MaxText, api.MaxText, 0, api.OK},
		{api.MaxText, api.MaxText, 1, api.ErrTooLarge},
		{0, 1, 1, api.OK},
		{0, 1, 2, api.ErrTooLarge},
		{api.MaxText - 1, api.MaxText, 1, api.OK},
		{api.MaxText - 1, api.MaxText, 2, api.ErrTooLarge},
		{30000, 30010, 9, api.OK},
		{30000, 30010, 10, api.OK},
		{30000, 30010, 11, api.ErrTooLarge},
		{0, api.MaxText, api.MaxText, api.OK},
		{0, api.MaxText, api.MaxText + 1, api.ErrTooLarge},
		{1, api.MaxText, api.MaxText, api.ErrTooLarge},
		{1, api.MaxText, api.MaxText - 1, api.OK},
		{0, 0, 1 << 20, api.ErrTooLarge},
	} {
		s, x := strings.Repeat("\n", c.size), api.Span{From: c.from, To: c.to}
		q, e := r.Replace(x, s)
		if e != c.e || (q == nil) != (e != api.OK) {
			t.Errorf("Replace(%v) by %d bytes: a rope: %v, %v", x, c.size, q != nil, e)
		}
		if e == api.OK && c.e == api.OK {
			holds(t, q, replaced(full, x, s))
		}
	}
	holds(t, r, full)
}
