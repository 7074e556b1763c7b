package frame_test

import (
	"runtime"
	"slices"
	"testing"

	"rostrum/api"
	"rostrum/frame"
)

// streams: short inputs with frames and faults, by hand.
func streams() []string {
	return []string{
		"",
		written("ab"),
		written("") + written("a") + written("") + written(""),
		"content-length: 2\r\nx: y\r\n\r\nabno\r\n\r\nContent-Length: 1\r\n\r\nz",
		written("\r\n\r\n") + "\r\n\r\n" + written(written("a")),
		"xContent-Length: 1\r\n\r\nz",
		"Content-Length: 262145\r\n\r\nContent-Length: 1\r\n\r\nz",
		"Content-Length: 1\r\nContent-Length: 1\r\n\r\nzy\r\n\r\n" + written("x"),
		"x\r\n\r\nContent-LengtContent-LengthContent-Length: 1\r\n\r\nz" + written("y"),
		"no\r\n\r\n" + written("a") + "no\r\n\r\n" + written("b") + "Content-Length: -1\r\n\r\n" + written("c"),
		"\r\n\r\n\r\n\r\n\r\n" + written("a") + "\r\n" + written("b"),
	}
}

// P6.3: each way to cut a short input in two, and in three with empty chunks between, and in single bytes.
func TestEveryCut(t *testing.T) {
	for _, s := range streams() {
		want := holds(t, s)
		for i := range len(s) + 1 {
			same(t, s, feed(t, frame.New(), s[:i], s[i:]), want)
			for k := i; k <= len(s); k++ {
				same(t, s, feed(t, frame.New(), "", s[:i], "", s[i:k], "", "", s[k:], ""), want)
			}
		}
	}
}

// P6.1, P6.3: each short text of the parts of frames, and after each byte what is reported so far.
func TestShortTexts(t *testing.T) {
	kinds := map[api.Errno]int{}
	count := func(s string) {
		for _, event := range holds(t, s) {
			kinds[event.E]++
		}
	}
	eachText([]string{"Content-Length: ", "content-length:", "1", "\r\n", "\r\n\r\n", "x"}, 5, count)
	eachText([]string{"Content-Length:1\r\n\r\n", "Content-Length:999999", "Content-", "Length:0", "\r\n\r\n", "a"}, 4, count)
	eachText([]string{"\r", "\n", "x:1", written("a")}, 6, count)
	if kinds[api.OK] < 1000 || kinds[api.ErrHead] < 1000 || kinds[api.ErrTooLarge] < 100 || len(kinds) != 3 {
		t.Errorf("reported: %v", kinds)
	}
}

// P6.3: any inputs, in chunks of any sizes.
func TestAnyChunks(t *testing.T) {
	r := source()
	kinds := map[api.Errno]int{}
	for range 4000 {
		s := someText(r, r.IntN(40))
		want := model(s)
		for _, event := range want {
			kinds[event.E]++
		}
		same(t, s, feed(t, frame.New(), s), want)
		same(t, s, feed(t, frame.New(), single(s)...), want)
		for range 5 {
			same(t, s, feed(t, frame.New(), cutUp(r, s)...), want)
		}
	}
	if kinds[api.OK] < 1000 || kinds[api.ErrHead] < 1000 || kinds[api.ErrTooLarge] < 20 || len(kinds) != 3 {
		t.Errorf("reported: %v", kinds)
	}
}

// P6.3: the longest body, byte by byte and cut at many places.
func TestChunksOfLongBodies(t *testing.T) {
	r := source()
	s := written(someBytes(r, api.MaxJSON)) + written("a")
	want := bodies(s[len("Content-Length: 262144\r\n\r\n"):][:api.MaxJSON], "a")
	same(t, s, feed(t, frame.New(), single(s)...), want)
	for at := 0; at < len(s); at += 4001 {
		same(t, s, feed(t, frame.New(), s[:at], s[at:]), want)
	}
	for range 5 {
		same(t, s, feed(t, frame.New(), cutUp(r, s)...), want)
	}
}

// P6.1: very many frames, and very many faults, in one chunk.
func TestLongChunks(t *testing.T) {
	const times = 50000
	reports(t, rep(written("a"), times), slices.Repeat(bodies("a"), times)...)
	same(t, "faults", feed(t, frame.New(), rep("Content-Length:\r\n\r\n", times)), slices.Repeat([]frame.Event{wrongHead}, times))
	same(t, "marks", feed(t, frame.New(), rep("Content-Length:", 2*times), rep("x", api.MaxHead)), slices.Repeat([]frame.Event{wrongHead}, 2*times))
	same(t, "nothing", feed(t, frame.New(), "x\r\n\r\n"+rep("Content-Length", 20*times), ":1\r\n\r\na"), []frame.Event{wrongHead, body("a")})
}

// P6.1: a copy, taken before each byte, and the reader that it was taken from go on with different bytes, in turn, so that neither may hold what the other was given.
func TestCopies(t *testing.T) {
	const other = "9\r\n\r\nContent-Length: 12\r\n\r\nabcdefghijklContent-Length: 1\r\n\r\nz"
	for _, s := range streams() {
		for i := range len(s) + 1 {
			r := frame.New()
			before := feed(t, r, single(s[:i])...)
			c := r.Copy()
			var ofReader, ofCopy []frame.Event
			for k := range max(len(s)-i, len(other)) {
				if i+k < len(s) {
					ofReader = append(ofReader, feed(t, r, s[i+k:i+k+1])...)
				}
				if k < len(other) {
					ofCopy = append(ofCopy, feed(t, c, other[k:k+1])...)
				}
			}
			same(t, "the reader of "+s, slices.Concat(before, ofReader), model(s))
			same(t, "the copy of "+s[:i], slices.Concat(before, ofCopy), model(s[:i]+other))
		}
	}
}

// P6.1: the copy goes first, then the reader; and the other way round.
func TestCopiesOneByOne(t *testing.T) {
	for _, s := range streams() {
		for i := range len(s) + 1 {
			for _, copyFirst := range []bool{true, false} {
				first := frame.New()
				before := feed(t, first, s[:i])
				second := first.Copy()
				if copyFirst {
					first, second = second, first
				}
				same(t, s[:i]+" first", slices.Concat(before, feed(t, first, rep("1", 50), "\r\n\r\n", written("a"))), model(s[:i]+rep("1", 50)+"\r\n\r\n"+written("a")))
				same(t, s[:i]+" second", slices.Concat(before, feed(t, second, s[i:])), model(s))
			}
		}
	}
}

// P6.1: copies of a reader that awaits a body, of several sizes: what is held has room for more, and each of them gets another end.
func TestCopiesWithinBodies(t *testing.T) {
	for _, size := range []int{1, 10, 100, 1000, 5000} {
		head := "Content-Length: 6000\r\n\r\n"
		r := frame.New()
		same(t, "the beginning", feed(t, r, single(head+rep("x", size))...), nil)
		var l []*frame.Reader
		for range 5 {
			l = append(l, r, r.Copy(), r.Copy().Copy())
			r = r.Copy()
		}
		readers := []*frame.Reader{}
		for _, c := range l {
			if !slices.Contains(readers, c) {
				readers = append(readers, c)
			}
		}
		for n := size; n < 6000; n += 100 {
			for i, c := range readers {
				at := min(6000-n, 100)
				want := bodies()
				if n+at == 6000 {
					want = bodies(rep("x", size) + rep(string(rune('a'+i)), 6000-size))
				}
				same(t, "a copy", feed(t, c, rep(string(rune('a'+i)), at)), want)
			}
		}
		if len(readers) != 15 {
			t.Errorf("%d readers", len(readers))
		}
	}
}

// tree feeds each of two ends to copies of a reader, down to a depth; all that it reports must be the model's.
func tree(t *testing.T, r *frame.Reader, s string, before []frame.Event, ends []string, depth int) {
	t.Helper()
	same(t, s, before, model(s))
	if depth == 0 {
		return
	}
	for _, end := range ends {
		c := r.Copy()
		tree(t, c, s+end, slices.Concat(before, feed(t, c, end)), ends, depth-1)
	}
	end := ends[len(s)%len(ends)]
	tree(t, r, s+end, slices.Concat(before, feed(t, r, end)), ends, depth-1)
}

// P6.1: copies of copies.
func TestCopiesOfCopies(t *testing.T) {
	tree(t, frame.New(), "", nil, []string{"Content-Length: ", "2", "\r\n\r\n", "x"}, 5)
	tree(t, frame.New(), "", nil, []string{"Content-Length: 3\r\n\r\n", "ab", ""}, 6)
	tree(t, frame.New(), "", nil, []string{"x y\r\n\r\n", "Content", "-Length: 1\r\n\r\n"}, 6)
}

// R3: the caller writes over a chunk behind the call; what is behind its length is neither read nor written.
func TestChunksOfTheCaller(t *testing.T) {
	for _, s := range streams() {
		for _, size := range []int{1, 2, 3, 7, 19, 1000} {
			r := frame.New()
			var l []frame.Event
			for at := 0; at < len(s); at += size {
				part := s[at:min(at+size, len(s))]
				chunk := append([]byte(part), "Content-Length: 1\r\n\r\nspare"...)
				spare := slices.Clone(chunk[len(part):])
				events, e := r.Feed(chunk[:len(part)])
				if e != api.OK || string(chunk[:len(part)]) != part || !slices.Equal(chunk[len(part):], spare) {
					t.Fatalf("Feed(%q): %v, %q", part, e, chunk)
				}
				for i := range chunk {
					chunk[i] = '#'
				}
				l = append(l, events...)
			}
			same(t, s, l, model(s))
		}
	}
}

// R3: one buffer for all chunks, as a caller that reads from somewhere has it.
func TestOneBuffer(t *testing.T) {
	s := written("first") + "no\r\n\r\n" + written(rep("ab", 100)) + written("last")
	var buffer [16]byte
	r := frame.New()
	var l []frame.Event
	for rest := s; rest != ""; {
		n := copy(buffer[:], rest)
		rest = rest[n:]
		events, _ := r.Feed(buffer[:n])
		l = append(l, events...)
	}
	same(t, s, l, []frame.Event{body("first"), wrongHead, body(rep("ab", 100)), body("last")})
}

// R3: the caller writes over results, and over their spare capacity.
func TestResultsOfTheCaller(t *testing.T) {
	const s = "Content-Length: 1\r\n\r\naContent-Length: 2\r\n\r\nbcno\r\n\r\n"
	r := frame.New()
	c := r.Copy()
	for range 50 {
		for _, reader := range []*frame.Reader{r, c, frame.New()} {
			l := feed(t, reader, s)
			same(t, s, l, []frame.Event{body("a"), body("bc"), wrongHead})
			for i := range l[:cap(l)] {
				l[:cap(l)][i] = frame.Event{Body: "spoilt", E: api.ErrNone}
			}
			same(t, "", feed(t, reader, ""), nil)
		}
	}
}

// heap: so many bytes are in use.
func heap() int {
	var m runtime.MemStats
	runtime.GC()
	runtime.ReadMemStats(&m)
	return int(m.HeapAlloc)
}

// A reader keeps no more than what is not divided yet, however much it was given.
func TestKept(t *testing.T) {
	const size = 1 << 24
	for _, s := range []string{
		"no\r\n\r\n" + rep("x", size) + "Content-Len",
		written("a") + "no\r\n\r\n" + rep("Content-Length", size/14) + "x",
		rep("no\r\n\r\n"+rep("x", 4000), size/4000) + "x",
		"no\r\n\r\n" + rep("x", size) + "Content-Length: 262144\r\n\r\nabc",
	} {
		for _, chunk := range []int{len(s), 1 << 20, 1000} {
			r := frame.New()
			b := []byte(s)
			before := heap()
			for at := 0; at < len(b); at += chunk {
				r.Feed(b[at:min(at+chunk, len(b))])
			}
			if more := heap() - before; more > size/4 {
				t.Errorf("after %s in chunks of %d bytes %d more are in use", short(s), chunk, more)
			}
			runtime.KeepAlive(r)
			runtime.KeepAlive(b)
		}
	}
}
