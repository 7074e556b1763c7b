package frame_test

import (
	"math/big"
	"math/rand/v2"
	"regexp"
	"slices"
	"strconv"
	"strings"
	"testing"

	"rostrum/api"
	"rostrum/frame"
)

// The chapter's terms over all bytes at once, so that the package is held against something that shares no code with it and knows of no chunks.

var (
	lineForm    = regexp.MustCompile(`(?s)\A([0-9A-Za-z-]+):[ \t]*(.*?)[ \t]*\z`)
	lineEndForm = regexp.MustCompile(`\r\n`)
	lengthForm  = regexp.MustCompile(`\A(?:0|[1-9][0-9]*)\z`)
)

// modelHead: where a head and what follows it end, and whether it ends within the limit.
func modelHead(s string) (int, bool) {
	for at := 0; at <= api.MaxHead && at+4 <= len(s); at++ {
		if s[at] == 0x0D && s[at+1] == 0x0A && s[at+2] == 0x0D && s[at+3] == 0x0A {
			return at + 4, true
		}
	}
	return 0, false
}

// modelLength: the length of a head with both of its last line ends; nil of one that is not valid.
func modelLength(head string) *big.Int {
	var l []*big.Int
	for _, line := range lineEndForm.Split(strings.TrimSuffix(head, "\r\n\r\n"), -1) {
		m := lineForm.FindStringSubmatch(line)
		if m == nil {
			return nil
		}
		if strings.ToUpper(m[1]) != "CONTENT-LENGTH" {
			continue
		}
		if !lengthForm.MatchString(m[2]) {
			return nil
		}
		n, _ := new(big.Int).SetString(m[2], 10)
		l = append(l, n)
	}
	if len(l) != 1 {
		return nil
	}
	return l[0]
}

// model: all that is reported of these bytes.
func model(s string) []frame.Event {
	var l []frame.Event
	for {
		end, ok := modelHead(s)
		if !ok && len(s) < api.MaxHead+4 {
			return l
		}
		e := api.ErrHead
		if size := modelLength(s[:end]); ok && size != nil {
			e = api.ErrTooLarge
			if size.Cmp(big.NewInt(api.MaxJSON)) <= 0 {
				to := end + int(size.Int64())
				if len(s) < to {
					return l
				}
				l = append(l, body(s[end:to]))
				s = s[to:]
				continue
			}
		}
		l = append(l, fault(e))
		at := strings.Index(s[1:], "Content-Length:")
		if at < 0 {
			return l
		}
		s = s[1+at:]
	}
}

func body(s string) frame.Event { return frame.Event{Body: s} }

func fault(e api.Errno) frame.Event { return frame.Event{E: e} }

// bodies: of these, events.
func bodies(l ...string) []frame.Event {
	var events []frame.Event
	for _, s := range l {
		events = append(events, body(s))
	}
	return events
}

// feed: what a reader reports of one chunk after another.
func feed(t *testing.T, r *frame.Reader, chunks ...string) []frame.Event {
	t.Helper()
	var l []frame.Event
	for _, s := range chunks {
		events, e := r.Feed([]byte(s))
		if e != api.OK {
			t.Fatalf("Feed(%s): %v", short(s), e)
		}
		l = append(l, events...)
	}
	return l
}

// single: the bytes of a text, one by one.
func single(s string) []string {
	l := make([]string, len(s))
	for i := range l {
		l[i] = s[i : i+1]
	}
	return l
}

// same: events against those that must be.
func same(t *testing.T, what string, l, want []frame.Event) {
	t.Helper()
	if !slices.Equal(l, want) {
		t.Fatalf("%s: %s, not %s", short(what), shown(l), shown(want))
	}
}

// reports: a new reader's events of a text in one chunk, by hand, which must be the model's, too.
func reports(t *testing.T, s string, want ...frame.Event) {
	t.Helper()
	same(t, "by the model "+s, model(s), want)
	same(t, s, feed(t, frame.New(), s), want)
}

// holds: a text in one chunk and in single bytes; after each of these all is reported that the bytes so far determine.
func holds(t *testing.T, s string) []frame.Event {
	t.Helper()
	want := model(s)
	same(t, s, feed(t, frame.New(), s), want)
	r := frame.New()
	var l []frame.Event
	for i := range len(s) {
		l = append(l, feed(t, r, s[i:i+1])...)
		same(t, s[:i+1], l, model(s[:i+1]))
	}
	return want
}

// eachText visits all texts of up to so many of these parts.
func eachText(parts []string, most int, visit func(s string)) {
	var grow func(s string, left int)
	grow = func(s string, left int) {
		visit(s)
		for _, part := range parts {
			if left > 0 {
				grow(s+part, left-1)
			}
		}
	}
	grow("", most)
}

// source: the same numbers in every run.
func source() *rand.Rand { return rand.New(rand.NewPCG(6, 2026)) }

// someText: so many parts, of those that frames and heads consist of, right and wrong.
func someText(r *rand.Rand, parts int) string {
	var b strings.Builder
	for range parts {
		switch r.IntN(16) {
		case 0, 1, 2, 3:
			b.WriteString(written(someBytes(r, r.IntN(40))))
		case 4:
			b.WriteString(someBytes(r, r.IntN(30)))
		case 5:
			b.WriteString(rep("x", r.IntN(1200)))
		case 6, 7:
			b.WriteString("Content-Length:"[:r.IntN(16)])
		default:
			b.WriteString(pick(r, "Content-Length:", "content-length:", "Content-Length: 3", "Content-Length: 262145\r\n\r\n", "CONTENT-LENGTH:\t5", "\r\n", "\r\n\r\n", "\r\n\r\n", "\r", "\n", " ", ":", "x: y\r\n", "1", "07", "262145", "-"))
		}
	}
	return b.String()
}

// someBytes: so many, of any value.
func someBytes(r *rand.Rand, size int) string {
	b := make([]byte, size)
	for i := range b {
		b[i] = byte(r.IntN(256))
	}
	return string(b)
}

// cutUp: a text in chunks of some sizes, empty ones among them.
func cutUp(r *rand.Rand, s string) []string {
	most := []int{2, 5, 20, 200, 3000}[r.IntN(5)]
	var l []string
	for s != "" {
		size := min(r.IntN(most), len(s))
		l = append(l, s[:size])
		s = s[size:]
	}
	return l
}

// pick: one of some texts.
func pick(r *rand.Rand, l ...string) string { return l[r.IntN(len(l))] }

// written: a frame, by hand.
func written(body string) string {
	return "Content-Length: " + strconv.Itoa(len(body)) + "\r\n\r\n" + body
}

// rep is a text, so many times.
func rep(s string, times int) string { return strings.Repeat(s, times) }

// short is a text for a message.
func short(s string) string {
	if len(s) > 120 {
		s = s[:60] + ".." + s[len(s)-60:] + ": " + strconv.Itoa(len(s)) + " bytes"
	}
	return strconv.Quote(s)
}

// shown are events for a message.
func shown(l []frame.Event) string {
	if len(l) > 12 {
		return shown(l[:12]) + " and " + strconv.Itoa(len(l)-12) + " more"
	}
	var b strings.Builder
	for _, event := range l {
		b.WriteString("{" + short(event.Body) + " " + strconv.Itoa(int(event.E)) + "}")
	}
	return "[" + b.String() + "]"
}
