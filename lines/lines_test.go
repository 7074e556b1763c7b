package lines_test

import (
	"math"
	"slices"
	"strings"
	"testing"

	"rostrum/api"
	"rostrum/lines"
)

// The chapter's example: all sizes but three bytes, and two kinds of line endings.
const mixed = "a\n\u00e9\r\n\U0001f600x"

const (
	least = math.MinInt
	most  = math.MaxInt
)

func at(line, char int) api.Pos { return api.Pos{Line: line, Char: char} }

// spans: each two ends are one.
func spans(ends ...int) []api.Span {
	var l []api.Span
	for i := 0; i+1 < len(ends); i += 2 {
		l = append(l, api.Span{From: ends[i], To: ends[i+1]})
	}
	return l
}

// P2.1: New, Lines and Line, by hand.
func TestLines(t *testing.T) {
	for _, x := range []struct {
		text string
		want []api.Span
	}{
		{"", spans(0, 0)},
		{"a", spans(0, 1)},
		{mixed, spans(0, 1, 2, 4, 6, 11)},
		{"\n", spans(0, 0, 1, 1)},
		{"\r", spans(0, 0, 1, 1)},
		{"\r\n", spans(0, 0, 2, 2)},
		{"\n\r", spans(0, 0, 1, 1, 2, 2)},
		{"\n\n", spans(0, 0, 1, 1, 2, 2)},
		{"\r\r", spans(0, 0, 1, 1, 2, 2)},
		{"\r\r\n", spans(0, 0, 1, 1, 3, 3)},
		{"\r\n\n", spans(0, 0, 2, 2, 3, 3)},
		{"\r\n\r\n", spans(0, 0, 2, 2, 4, 4)},
		{"a\r\nb", spans(0, 1, 3, 4)},
		{"a\rb\n", spans(0, 1, 2, 3, 4, 4)},
		{"\na\r", spans(0, 0, 1, 2, 3, 3)},
		{"a\r\u00e9\nb", spans(0, 1, 2, 4, 5, 6)},
	} {
		i := index(t, x.text)
		if got := spansOf(t, i); !slices.Equal(got, x.want) {
			t.Errorf("lines of %q: %v, not %v", x.text, got, x.want)
		}
		for _, n := range []int{-1, len(x.want), len(x.want) + 1, least, most} {
			if s, e := i.Line(n); s != (api.Span{}) || e != api.ErrArg {
				t.Errorf("Line(%d) of %q: %v, %v", n, x.text, s, e)
			}
		}
	}
}

// P2.1: nothing else ends a line, neither what other rules take for an ending nor code points whose lower bits are those of one.
func TestNoLineEndings(t *testing.T) {
	for _, text := range []string{
		"\x00", "\t", "\v", "\f", "\x1c", "\x1e", "\u0085", "\u2028", "\u2029", "\u010a", "\u010d", "\u0a0d", "\U0001000a", "\\n", "\\r",
	} {
		if n := index(t, "a"+text+"b").Lines(); n != 1 {
			t.Errorf("%q: %d lines", text, n)
		}
	}
}

// P2.1: the texts that have no index; too many bytes are refused first.
func TestNewRefuses(t *testing.T) {
	full := strings.Repeat("a", api.MaxText)
	for _, x := range []struct {
		text string
		want api.Errno
	}{
		{full + "a", api.ErrTooLarge},
		{strings.Repeat("\n", api.MaxText+1), api.ErrTooLarge},
		{full[1:] + "\u00e9", api.ErrTooLarge},
		{full + "\xff", api.ErrTooLarge},
		{strings.Repeat("\xff", 2*api.MaxText), api.ErrTooLarge},
		{full[1:] + "\xff", api.ErrForm},
		{"\xff", api.ErrForm},
		{"\x80", api.ErrForm},
		{"a\xc3", api.ErrForm},
		{"\xc3\n\xa9", api.ErrForm},
		{"\xc0\x8a", api.ErrForm},
		{"\xe2\x82\r\n", api.ErrForm},
		{"\xed\xa0\x80", api.ErrForm},
		{"\xed\xa0\xbd\xed\xb8\x80", api.ErrForm},
		{"\xf0\x9f\x98", api.ErrForm},
		{"\xf4\x90\x80\x80", api.ErrForm},
	} {
		if i, e := lines.New(x.text); i != nil || e != x.want {
			t.Errorf("New of %.20q (%d bytes): an index: %v, %v, not %v", x.text, len(x.text), i != nil, e, x.want)
		}
	}
}

// P2.1, P2.2: texts of MaxText bytes, at their beginning, in their middle and at their end.
func TestMaxText(t *testing.T) {
	for _, x := range []struct {
		piece string
		lines int
		last  api.Pos
	}{
		{"a", 1, at(0, api.MaxText)},
		{"\n", api.MaxText + 1, at(api.MaxText, 0)},
		{"\r", api.MaxText + 1, at(api.MaxText, 0)},
		{"\r\n", api.MaxText/2 + 1, at(api.MaxText/2, 0)},
		{"\u00e9", 1, at(0, api.MaxText/2)},
		{"\U0001f600", 1, at(0, api.MaxText/2)},
		{"\n\U0001f600abc", api.MaxText/8 + 1, at(api.MaxText/8, 5)},
	} {
		text := strings.Repeat(x.piece, api.MaxText/len(x.piece))
		i := index(t, text)
		if n := i.Lines(); n != x.lines {
			t.Errorf("%q over and over: %d lines, not %d", x.piece, n, x.lines)
		}
		if p, e := i.Pos(api.MaxText); p != x.last || e != api.OK {
			t.Errorf("%q over and over: the end at %v, %v", x.piece, p, e)
		}
		if n, e := i.Offset(x.last); n != api.MaxText || e != api.OK {
			t.Errorf("%q over and over: %v is the byte %d, %v", x.piece, x.last, n, e)
		}
		if p, e := i.Pos(api.MaxText + 1); p != (api.Pos{}) || e != api.ErrArg {
			t.Errorf("%q over and over: past the end: %v, %v", x.piece, p, e)
		}
		m := modelOf(text)
		for _, from := range []int{0, api.MaxText/2 - 8, api.MaxText - 8} {
			for offset := from; offset < from+8; offset++ {
				checkPos(t, x.piece+", over and over", i, m, offset)
			}
		}
	}
}

// P2.2: Offset, by hand; beside an error the byte is 0.
func TestOffset(t *testing.T) {
	for _, x := range []struct {
		text string
		p    api.Pos
		want int
		e    api.Errno
	}{
		{mixed, at(0, 0), 0, api.OK},
		{mixed, at(0, 1), 1, api.OK},
		{mixed, at(0, 2), 0, api.ErrPos},
		{mixed, at(1, 0), 2, api.OK},
		{mixed, at(1, 1), 4, api.OK},
		{mixed, at(1, 2), 0, api.ErrPos},
		{mixed, at(2, 0), 6, api.OK},
		{mixed, at(2, 1), 0, api.ErrPos},
		{mixed, at(2, 2), 10, api.OK},
		{mixed, at(2, 3), 11, api.OK},
		{mixed, at(2, 4), 0, api.ErrPos},
		{mixed, at(3, 0), 0, api.ErrPos},
		{mixed, at(-1, 0), 0, api.ErrPos},
		{mixed, at(0, -1), 0, api.ErrPos},
		{mixed, at(1, -1), 0, api.ErrPos},
		{mixed, at(least, least), 0, api.ErrPos},
		{mixed, at(most, most), 0, api.ErrPos},
		{mixed, at(2, most), 0, api.ErrPos},
		{mixed, at(2, least), 0, api.ErrPos},
		{"", at(0, 0), 0, api.OK},
		{"", at(0, 1), 0, api.ErrPos},
		{"", at(0, -1), 0, api.ErrPos},
		{"", at(1, 0), 0, api.ErrPos},
		{"\n", at(1, 0), 1, api.OK},
		{"\r\n", at(0, 0), 0, api.OK},
		{"\r\n", at(0, 1), 0, api.ErrPos},
		{"\r\n", at(1, 0), 2, api.OK},
		{"\u20ac\U0001f600", at(0, 1), 3, api.OK},
		{"\u20ac\U0001f600", at(0, 2), 0, api.ErrPos},
		{"\u20ac\U0001f600", at(0, 3), 7, api.OK},
		{"\uffff\U00010000\U0010ffff", at(0, 1), 3, api.OK},
		{"\uffff\U00010000\U0010ffff", at(0, 3), 7, api.OK},
		{"\uffff\U00010000\U0010ffff", at(0, 5), 11, api.OK},
	} {
		if n, e := index(t, x.text).Offset(x.p); n != x.want || e != x.e {
			t.Errorf("Offset of %q, %v: %d, %v, not %d, %v", x.text, x.p, n, e, x.want, x.e)
		}
	}
}

// P2.2: Pos, by hand; beside an error the position is zero.
func TestPos(t *testing.T) {
	for _, x := range []struct {
		text   string
		offset int
		want   api.Pos
		e      api.Errno
	}{
		{mixed, 0, at(0, 0), api.OK},
		{mixed, 1, at(0, 1), api.OK},
		{mixed, 2, at(1, 0), api.OK},
		{mixed, 3, at(0, 0), api.ErrArg},
		{mixed, 4, at(1, 1), api.OK},
		{mixed, 5, at(1, 1), api.OK},
		{mixed, 6, at(2, 0), api.OK},
		{mixed, 7, at(0, 0), api.ErrArg},
		{mixed, 8, at(0, 0), api.ErrArg},
		{mixed, 9, at(0, 0), api.ErrArg},
		{mixed, 10, at(2, 2), api.OK},
		{mixed, 11, at(2, 3), api.OK},
		{mixed, 12, at(0, 0), api.ErrArg},
		{mixed, -1, at(0, 0), api.ErrArg},
		{mixed, least, at(0, 0), api.ErrArg},
		{mixed, most, at(0, 0), api.ErrArg},
		{"", 0, at(0, 0), api.OK},
		{"", 1, at(0, 0), api.ErrArg},
		{"", -1, at(0, 0), api.ErrArg},
		{"\r\n", 1, at(0, 0), api.OK},
		{"\r\n", 2, at(1, 0), api.OK},
		{"\n\r", 1, at(1, 0), api.OK},
		{"ab\r", 2, at(0, 2), api.OK},
		{"ab\r", 3, at(1, 0), api.OK},
	} {
		if p, e := index(t, x.text).Pos(x.offset); p != x.want || e != x.e {
			t.Errorf("Pos of %q, %d: %v, %v, not %v, %v", x.text, x.offset, p, e, x.want, x.e)
		}
	}
}

// P2.2: Span, by hand; beside an error the span is zero.
func TestSpan(t *testing.T) {
	for _, x := range []struct {
		start, end api.Pos
		want       api.Span
		e          api.Errno
	}{
		{at(0, 0), at(2, 3), api.Span{From: 0, To: 11}, api.OK},
		{at(0, 1), at(1, 1), api.Span{From: 1, To: 4}, api.OK},
		{at(1, 1), at(1, 1), api.Span{From: 4, To: 4}, api.OK},
		{at(2, 3), at(2, 3), api.Span{From: 11, To: 11}, api.OK},
		{at(1, 1), at(1, 0), api.Span{}, api.ErrPos},
		{at(1, 0), at(0, 1), api.Span{}, api.ErrPos},
		{at(2, 1), at(2, 2), api.Span{}, api.ErrPos},
		{at(2, 0), at(2, 1), api.Span{}, api.ErrPos},
		{at(-1, 0), at(2, 0), api.Span{}, api.ErrPos},
		{at(0, 0), at(3, 0), api.Span{}, api.ErrPos},
		{at(most, most), at(least, least), api.Span{}, api.ErrPos},
	} {
		if s, e := index(t, mixed).Span(api.Range{Start: x.start, End: x.end}); s != x.want || e != x.e {
			t.Errorf("Span of %v to %v: %v, %v, not %v, %v", x.start, x.end, s, e, x.want, x.e)
		}
	}
}

// P2.2: Range, by hand; beside an error the range is zero.
func TestRange(t *testing.T) {
	for _, x := range []struct {
		span api.Span
		want api.Range
		e    api.Errno
	}{
		{api.Span{From: 0, To: 11}, api.Range{Start: at(0, 0), End: at(2, 3)}, api.OK},
		{api.Span{From: 1, To: 4}, api.Range{Start: at(0, 1), End: at(1, 1)}, api.OK},
		{api.Span{From: 4, To: 5}, api.Range{Start: at(1, 1), End: at(1, 1)}, api.OK},
		{api.Span{From: 5, To: 5}, api.Range{Start: at(1, 1), End: at(1, 1)}, api.OK},
		{api.Span{From: 5, To: 6}, api.Range{Start: at(1, 1), End: at(2, 0)}, api.OK},
		{api.Span{From: 11, To: 11}, api.Range{Start: at(2, 3), End: at(2, 3)}, api.OK},
		{api.Span{From: 5, To: 4}, api.Range{}, api.ErrArg},
		{api.Span{From: 2, To: 1}, api.Range{}, api.ErrArg},
		{api.Span{From: 3, To: 4}, api.Range{}, api.ErrArg},
		{api.Span{From: 2, To: 3}, api.Range{}, api.ErrArg},
		{api.Span{From: -1, To: 4}, api.Range{}, api.ErrArg},
		{api.Span{From: 0, To: 12}, api.Range{}, api.ErrArg},
		{api.Span{From: 12, To: 12}, api.Range{}, api.ErrArg},
		{api.Span{From: least, To: most}, api.Range{}, api.ErrArg},
		{api.Span{From: most, To: least}, api.Range{}, api.ErrArg},
	} {
		if r, e := index(t, mixed).Range(x.span); r != x.want || e != x.e {
			t.Errorf("Range of %v: %v, %v, not %v, %v", x.span, r, e, x.want, x.e)
		}
	}
}

// P2.1, P2.2: the calls with one place, against the chapter's terms.
func TestPlacesAsTheTermsSay(t *testing.T) {
	eachText(5, func(text string) {
		x, m := index(t, text), modelOf(text)
		if got := spansOf(t, x); !slices.Equal(got, m.spans) {
			t.Fatalf("lines of %q: %v, not %v", text, got, m.spans)
		}
		for _, p := range m.somePoses() {
			want, e := m.bytes[p], api.OK
			if _, ok := m.bytes[p]; !ok {
				e = api.ErrPos
			}
			if n, err := x.Offset(p); n != want || err != e {
				t.Fatalf("Offset of %q, %v: %d, %v, not %d, %v", text, p, n, err, want, e)
			}
		}
		for _, offset := range someBytes(text) {
			checkPos(t, text, x, m, offset)
		}
	})
}

func checkPos(t *testing.T, text string, x *lines.Index, m model, offset int) {
	t.Helper()
	want, e := m.poses[offset], api.OK
	if _, ok := m.poses[offset]; !ok {
		e = api.ErrArg
	}
	if p, err := x.Pos(offset); p != want || err != e {
		t.Fatalf("Pos of %q, %d: %v, %v, not %v, %v", text, offset, p, err, want, e)
	}
}

// P2.2: the calls with two places, against the chapter's terms.
func TestPairsOfPlacesAsTheTermsSay(t *testing.T) {
	eachText(4, func(text string) {
		x, m := index(t, text), modelOf(text)
		for _, start := range m.somePoses() {
			for _, end := range m.somePoses() {
				from, ok := m.bytes[start]
				to, also := m.bytes[end]
				want, e := api.Span{From: from, To: to}, api.OK
				if !ok || !also || before(end, start) {
					want, e = api.Span{}, api.ErrPos
				}
				if s, err := x.Span(api.Range{Start: start, End: end}); s != want || err != e {
					t.Fatalf("Span of %q, %v to %v: %v, %v, not %v, %v", text, start, end, s, err, want, e)
				}
			}
		}
		for _, from := range someBytes(text) {
			for _, to := range someBytes(text) {
				start, ok := m.poses[from]
				end, also := m.poses[to]
				want, e := api.Range{Start: start, End: end}, api.OK
				if !ok || !also || from > to {
					want, e = api.Range{}, api.ErrArg
				}
				if r, err := x.Range(api.Span{From: from, To: to}); r != want || err != e {
					t.Fatalf("Range of %q, %d to %d: %v, %v, not %v, %v", text, from, to, r, err, want, e)
				}
			}
		}
	})
}

// P2.3: Pos and Offset lead back, but for the byte between 0D and 0A.
func TestPosAndOffsetLeadBack(t *testing.T) {
	eachText(5, func(text string) {
		x := index(t, text)
		for offset := 0; offset <= len(text); offset++ {
			p, e := x.Pos(offset)
			if e != api.OK {
				continue
			}
			want := offset
			if strings.HasSuffix(text[:offset], "\r") && strings.HasPrefix(text[offset:], "\n") {
				want--
			}
			if back, e := x.Offset(p); back != want || e != api.OK {
				t.Fatalf("%q: byte %d, position %v, byte %d, %v", text, offset, p, back, e)
			}
		}
		for _, p := range modelOf(text).somePoses() {
			n, e := x.Offset(p)
			if e != api.OK {
				continue
			}
			if back, e := x.Pos(n); back != p || e != api.OK {
				t.Fatalf("%q: position %v, byte %d, position %v, %v", text, p, n, back, e)
			}
		}
	})
}

// P2.4: a lesser position is a lesser byte, and the other way round.
func TestOrder(t *testing.T) {
	eachText(5, func(text string) {
		x := index(t, text)
		var last api.Pos
		byteOfLast, count := -1, 0
		for _, p := range modelOf(text).somePoses() { // by line, then Char
			n, e := x.Offset(p)
			if e != api.OK {
				continue
			}
			if count > 0 && (!before(last, p) || n <= byteOfLast) {
				t.Fatalf("%q: %v is the byte %d, %v the byte %d", text, last, byteOfLast, p, n)
			}
			last, byteOfLast = p, n
			count++
		}
		if byteOfLast != len(text) {
			t.Fatalf("%q: the last position %v is the byte %d", text, last, byteOfLast)
		}
	})
}

// P2.5: the lines of a text, a 0A and another text are those of both.
func TestConcatenation(t *testing.T) {
	eachText(3, func(a string) {
		if strings.HasSuffix(a, "\n") || strings.HasSuffix(a, "\r") {
			return
		}
		ofA := spansOf(t, index(t, a))
		eachText(3, func(b string) {
			want := slices.Clone(ofA)
			for _, s := range spansOf(t, index(t, b)) {
				want = append(want, api.Span{From: len(a) + 1 + s.From, To: len(a) + 1 + s.To})
			}
			if got := spansOf(t, index(t, a+"\n"+b)); !slices.Equal(got, want) {
				t.Fatalf("lines of %q, 0A, %q: %v, not %v", a, b, got, want)
			}
		})
	})
}

// P2.5 asks for a first text without a line ending at its end: a 0D there becomes one with the 0A.
func TestReturnJoinsNewline(t *testing.T) {
	if n := index(t, "a\r").Lines() + index(t, "b").Lines(); n != 3 {
		t.Errorf("both have %d lines", n)
	}
	if n := index(t, "a\r"+"\n"+"b").Lines(); n != 2 {
		t.Errorf("joined they have %d lines", n)
	}
}

// R1: a nil index; whatever else is wrong, ErrNil is first.
func TestNil(t *testing.T) {
	var x *lines.Index
	if n := x.Lines(); n != 0 {
		t.Errorf("Lines: %d", n)
	}
	for _, n := range []int{0, 1, -1, least, most} {
		if s, e := x.Line(n); s != (api.Span{}) || e != api.ErrNil {
			t.Errorf("Line(%d): %v, %v", n, s, e)
		}
		if offset, e := x.Offset(at(n, n)); offset != 0 || e != api.ErrNil {
			t.Errorf("Offset(%d, %d): %d, %v", n, n, offset, e)
		}
		if p, e := x.Pos(n); p != (api.Pos{}) || e != api.ErrNil {
			t.Errorf("Pos(%d): %v, %v", n, p, e)
		}
		if s, e := x.Span(api.Range{Start: at(1, 0), End: at(n, n)}); s != (api.Span{}) || e != api.ErrNil {
			t.Errorf("Span to (%d, %d): %v, %v", n, n, s, e)
		}
		if r, e := x.Range(api.Span{From: 1, To: n}); r != (api.Range{}) || e != api.ErrNil {
			t.Errorf("Range to %d: %v, %v", n, r, e)
		}
	}
}

// R1: an index that New did not make does not panic.
func TestMadeOtherwise(t *testing.T) {
	x := new(lines.Index)
	x.Lines()
	for _, n := range []int{0, 1, -1, least, most} {
		x.Line(n)
		x.Offset(at(n, n))
		x.Pos(n)
		x.Span(api.Range{Start: at(0, 0), End: at(n, n)})
		x.Range(api.Span{From: 0, To: n})
	}
}

// R2: two indexes do not affect one another, and a call leaves no trace in later ones.
func TestIndexesStayAlone(t *testing.T) {
	x, y := index(t, mixed), index(t, "\r\n\nb")
	first, second := spansOf(t, x), spansOf(t, y)
	x.Offset(at(9, 9))
	y.Pos(2)
	x.Span(api.Range{Start: at(2, 0), End: at(0, 0)})
	if !slices.Equal(spansOf(t, x), first) || !slices.Equal(spansOf(t, y), second) {
		t.Errorf("lines have changed: %v, %v", spansOf(t, x), spansOf(t, y))
	}
}
