package rope_test

import (
	"strings"
	"testing"

	"rostrum/api"
	"rostrum/rope"
)

// grown: what inserting a text of line endings again and again gives, with P3.3 held after each time.
func grown(t *testing.T, size, times int, place func(size int) int) {
	t.Helper()
	r, s := of(t, ""), strings.Repeat("\n", size)
	for range times {
		at := place(r.Len())
		r = edited(t, r, api.Span{From: at, To: at}, s)
		depthHolds(t, r)
	}
	counts(t, r, strings.Repeat(s, times))
	if r.Ends() != size*times {
		t.Fatalf("Ends: %d, not %d", r.Ends(), size*times)
	}
	shrunk(t, r, place)
}

// shrunk: what removing some bytes again and again gives, till there are none, with P3.3 held after each time.
func shrunk(t *testing.T, r *rope.Rope, place func(size int) int) {
	t.Helper()
	for r.Len() > 0 {
		size, at := r.Len(), place(r.Len())
		x := api.Span{From: max(0, at-61), To: min(size, at+62)}
		r = edited(t, r, x, "")
		depthHolds(t, r)
		if r.Len() != size-(x.To-x.From) {
			t.Fatalf("%v of %d bytes removed: %d", x, size, r.Len())
		}
	}
}

// P3.3: a text that grows at its end, at its beginning, in its middle, on both sides in turn and anywhere, by texts of several sizes, up to the longest; and shrinks.
func TestDepthOfGrownTexts(t *testing.T) {
	x, turn := numbers(3), 0
	places := []func(size int) int{
		func(size int) int { return size },
		func(size int) int { return 0 },
		func(size int) int { return size / 2 },
		func(size int) int { turn++; return turn % 2 * size },
		func(size int) int { return x.below(size + 1) },
		func(size int) int { return size / 3 },
	}
	for _, place := range places {
		for _, size := range []int{1, 2, 50, 127, 128, 129, 130, 200, 256, 257, 1000} {
			grown(t, size, api.MaxText/size, place)
		}
	}
}

// P3.3: ropes of a text as it is, of every size up to some and of the powers of two.
func TestDepthOfTexts(t *testing.T) {
	for size := range 5000 {
		depthHolds(t, of(t, full[:size]))
	}
	for size := 1; size <= api.MaxText; size *= 2 {
		depthHolds(t, of(t, full[:size-1]))
		depthHolds(t, of(t, full[:size]))
	}
	if d := of(t, "").Depth(); d != 0 {
		t.Errorf("depth of no bytes: %d", d)
	}
	if d := of(t, "a").Depth(); d < 1 {
		t.Errorf("depth of one byte: %d", d)
	}
}

// P3.3: cutting a long text to a few bytes from both sides and from within.
func TestDepthOfCutTexts(t *testing.T) {
	x := numbers(4)
	for range 200 {
		r := of(t, full)
		for r.Len() > 0 {
			r = edited(t, r, x.span(r.Len(), r.Len()), "")
			depthHolds(t, r)
			r = edited(t, r, x.span(min(3, r.Len()), 1), "")
			depthHolds(t, r)
			if x.below(20) == 0 {
				break
			}
		}
	}
}

// version is a rope of a history, with the text that it must have.
type version struct {
	r    *rope.Rope
	text string
}

// history: edits of many sizes one after another, each one of the last rope or of an older one.
func history(t *testing.T, seed numbers, first string, times int) []version {
	t.Helper()
	l := []version{{of(t, first), first}}
	for range times {
		old := l[len(l)-1]
		if seed.below(5) == 0 {
			old = l[seed.below(len(l))]
		}
		sizes := []int{0, 1, 5, 100, 300, 2000}
		x := seed.span(len(old.text), sizes[seed.below(len(sizes))])
		s := seed.text(seed.below(sizes[seed.below(len(sizes))] + 1))
		if len(old.text)-(x.To-x.From)+len(s) > api.MaxText {
			s = ""
		}
		next := version{edited(t, old.r, x, s), replaced(old.text, x, s)}
		counts(t, next.r, next.text)
		l = append(l, next)
	}
	return l
}

// P3.1, P3.2, P3.4: all ropes of a history are asked when all edits are done.
func TestHistories(t *testing.T) {
	x := numbers(5)
	for i, first := range []string{"", "one\ntwo\n", x.text(300), x.text(9000), full} {
		l := history(t, numbers(6+i), first, 400)
		for _, v := range l {
			counts(t, v.r, v.text)
		}
		for n := 0; n < len(l); n += 40 {
			holds(t, l[n].r, l[n].text)
		}
		last := l[len(l)-1]
		holds(t, last.r, last.text)
		refuses(t, last.r)
		holds(t, l[0].r, first)
	}
}

// P3.4: many edits of the same rope, none of which shows in it or in another.
func TestPersistence(t *testing.T) {
	x := numbers(20)
	text := x.text(10000)
	r := of(t, text)
	depth := r.Depth()
	var l []version
	for range 300 {
		span, s := x.span(len(text), 1500), x.text(x.below(700))
		l = append(l, version{edited(t, r, span, s), replaced(text, span, s)})
		if _, e := r.Replace(span, full+"x"); e != api.ErrTooLarge {
			t.Fatalf("Replace by more than a text's bytes: %v", e)
		}
	}
	for _, v := range l {
		counts(t, v.r, v.text)
	}
	holds(t, r, text)
	if r.Depth() != depth {
		t.Errorf("the depth was %d and is %d", depth, r.Depth())
	}
	// An edit that changes no byte gives a rope like any other.
	same := edited(t, r, api.Span{From: 5, To: 5}, "")
	holds(t, same, text)
	holds(t, edited(t, same, api.Span{From: 0, To: 9999}, "z"), "z"+text[9999:])
	holds(t, same, text)
}

// P3.5: an edit, then the one that puts back what it removed.
func TestRestoring(t *testing.T) {
	x := numbers(21)
	for range 2000 {
		text := x.text(x.below(2000))
		r := of(t, text)
		span, s := x.span(len(text), 600), x.text(x.below(600))
		removed, e := r.Slice(span)
		if e != api.OK {
			t.Fatalf("Slice(%v) of %d bytes: %v", span, len(text), e)
		}
		q := edited(t, r, span, s)
		back := edited(t, q, api.Span{From: span.From, To: span.From + len(s)}, removed)
		counts(t, back, text)
		if back.Ends() != r.Ends() {
			t.Fatalf("restored: %d line endings, not %d", back.Ends(), r.Ends())
		}
	}
	cut := edited(t, of(t, full), api.Span{From: 1000, To: 64000}, "")
	holds(t, edited(t, cut, api.Span{From: 1000, To: 1000}, full[1000:64000]), full)
}

// P3.5: edits of two spans that have no byte in common, in either order.
func TestDisjoint(t *testing.T) {
	x := numbers(22)
	for range 2000 {
		text := x.text(x.below(3000))
		r := of(t, text)
		a := x.span(len(text), 400)
		b := x.span(len(text)-a.To, 400)
		b.From, b.To = b.From+a.To, b.To+a.To
		s, u := x.text(x.below(400)), x.text(x.below(400))
		shift := len(s) - (a.To - a.From)
		one := edited(t, edited(t, r, a, s), api.Span{From: b.From + shift, To: b.To + shift}, u)
		two := edited(t, edited(t, r, b, u), a, s)
		counts(t, one, text[:a.From]+s+text[a.To:b.From]+u+text[b.To:])
		counts(t, two, one.String())
		if one.Ends() != two.Ends() {
			t.Fatalf("line endings: %d and %d", one.Ends(), two.Ends())
		}
	}
}

// linesHold: P3.6, at every byte, and at the end.
func linesHold(t *testing.T, r *rope.Rope) {
	t.Helper()
	text := r.String()
	for at := 0; at <= len(text); at++ {
		n, e := r.Ahead(at)
		if e != api.OK {
			t.Fatalf("Ahead(%d) of %d bytes: %v", at, len(text), e)
		}
		begin, e := r.Line(n)
		if e != api.OK || begin > at {
			t.Fatalf("Line(%d), of the byte %d: %d, %v", n, at, begin, e)
		}
		if strings.Contains(text[begin:at], "\n") {
			t.Fatalf("between the beginning %d of the line of the byte %d and the byte is a line ending", begin, at)
		}
		next, e := r.Line(n + 1)
		if n == r.Ends() {
			if e != api.ErrArg {
				t.Fatalf("Line(%d) of %d line endings: %v", n+1, n, e)
			}
			continue
		}
		if e != api.OK || next <= at || text[next-1] != 0x0A {
			t.Fatalf("Line(%d), after the byte %d: %d, %v", n+1, at, next, e)
		}
	}
}

// P3.6: ropes as they are made, and after edits.
func TestLineOfAhead(t *testing.T) {
	eachText(5, func(text string) { linesHold(t, of(t, text)) })
	linesHold(t, of(t, full))
	linesHold(t, of(t, strings.Repeat("\n", api.MaxText)))
	for i, v := range history(t, 23, "one\ntwo\n", 300) {
		if i%20 == 0 {
			linesHold(t, v.r)
		}
	}
}
