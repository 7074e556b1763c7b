package frame_test

import (
	"slices"
	"strings"
	"testing"

	"rostrum/api"
	"rostrum/frame"
)

const mark = "Content-Length:"

// P6.1: skipping ends at a mark, in exactly this spelling.
func TestMarks(t *testing.T) {
	for _, s := range []string{
		"content-length: 1\r\n\r\na", "CONTENT-LENGTH: 1\r\n\r\na", "Content-length: 1\r\n\r\na", "content-Length: 1\r\n\r\na", "Content-Length : 1\r\n\r\na", "Content-Length 1\r\n\r\na", "Content-Length\r\n: 1\r\n\r\na", "Content_Length: 1\r\n\r\na", "Content--Length: 1\r\n\r\na", "ContentLength: 1\r\n\r\na", "ontent-Length: 1\r\n\r\na", "Content-Length\x00: 1\r\n\r\na", "Content-Length\uff1a 1\r\n\r\na",
		"no\r\n\r\n", rep("no\r\n\r\n", 500), rep("x", 5000), "x: y\r\ncontent-length: 1\r\n\r\na",
	} {
		reports(t, "no\r\n\r\n"+s, wrongHead)
		reports(t, "no\r\n\r\n"+s+written("b"), wrongHead, body("b"))
		reports(t, "no\r\n\r\n"+s+mark+"0\r\n\r\n"+written("b"), wrongHead, body(""), body("b"))
		holds(t, "no\r\n\r\n"+s+written("b"))
	}
}

// P6.1: a mark that is cut anywhere, with whatever is between its parts, is none; cut by chunks alone it is one.
func TestCutMarks(t *testing.T) {
	for i := range len(mark) {
		for _, between := range []string{" ", "x", "\r\n", "-", ":", "\x00", mark[:i], mark[i : i+1], mark[:i] + "x"} {
			s := mark[:i] + between + mark[i:] + " 1\r\n\r\na"
			whole := strings.Index(s, mark)
			want := []frame.Event{wrongHead}
			if whole >= 0 {
				want = append(want, model(s[whole:])...)
			}
			reports(t, "no\r\n\r\n"+s, want...)
			want = append(want, model(written("b"))...)
			holds(t, "no\r\n\r\n"+s+written("b"))
			same(t, s, feed(t, frame.New(), single("no\r\n\r\n"+s+written("b"))...), want)
		}
		for k := i; k <= len(mark); k++ {
			r := frame.New()
			same(t, "a wrong head", feed(t, r, "no\r\n\r\n"), []frame.Event{wrongHead})
			same(t, "the first part", feed(t, r, mark[:i]), nil)
			same(t, "the second part", feed(t, r, mark[i:k]), nil)
			same(t, "the last part", feed(t, r, mark[k:]+"1\r\n\r\na"), bodies("a"))
		}
		// Parts of a mark before the mark, in chunks of their own.
		r := frame.New()
		same(t, mark[:i], feed(t, r, "no\r\n\r\n", mark[:i], mark[:i], mark[:i/2], mark+"1\r\n\r\na"), []frame.Event{wrongHead, body("a")})
	}
}

// P6.1: at least one byte is skipped: the mark that a wrong head begins with does not count, one behind its first byte does.
func TestFirstByte(t *testing.T) {
	for _, first := range []string{"x", "C", " ", ":", "\r", "\n", "\x00", "\xff", "-", "0"} {
		reports(t, first+"Content-Length: 1\r\n\r\na", wrongHead, body("a"))
		reports(t, first+"Content-Length: 1\r\n\r\na"+written("b"), wrongHead, body("a"), body("b"))
		reports(t, written("z")+first+"Content-Length: 1\r\n\r\na", body("z"), wrongHead, body("a"))
		holds(t, first+"Content-Length: 1\r\n\r\na"+written("b"))
	}
	reports(t, "Content-Length: x\r\n\r\n", wrongHead)
	reports(t, "Content-Length: x\r\n\r\nContent-Length: y\r\n\r\nContent-Length: 1\r\n\r\na", wrongHead, wrongHead, body("a"))
	reports(t, "Content-Length:Content-Length: 1\r\n\r\na", wrongHead, body("a"))
	reports(t, rep(mark, 10)+"1\r\n\r\na", append(slices.Repeat([]frame.Event{wrongHead}, 9), body("a"))...)
}

// P6.1: what is skipped begins with the wrong head itself, not behind it: a mark within it is the next one.
func TestMarksInHeads(t *testing.T) {
	reports(t, "Content-Length: 1\r\nContent-Length: 2\r\n\r\nab", wrongHead, body("ab"))
	reports(t, "Content-Length: 3\r\nContent-Length: 2\r\nContent-Length: 1\r\n\r\nab", wrongHead, wrongHead, body("a"))
	reports(t, "no\r\nContent-Length: 2\r\n\r\nab", wrongHead, body("ab"))
	reports(t, "no Content-Length: 2\r\n\r\nab", wrongHead, body("ab"))
	reports(t, "x: y\r\nContent-Length: 262145\r\n\r\nab"+written("z"), tooLarge, tooLarge, body("z"))
	reports(t, "content-length: 262145\r\nx: Content-Length: 2\r\n\r\nab", tooLarge, body("ab"))
	reports(t, "Content-Length: 2\r\nno\r\n\r\nab"+written("z"), wrongHead, body("z"))
	reports(t, "Content-Length: 262145\r\n\r\n"+written("z"), tooLarge, body("z"))
	reports(t, "Content-Length: 262145\r\n\r\n"+rep("x", 3000)+"\r\n\r\n"+written("z"), tooLarge, body("z"))
}

// P6.1: marks within a head that is too long; each of them begins another one.
func TestMarksInLongHeads(t *testing.T) {
	for _, at := range []int{1, 2, 500, api.MaxHead - 20, api.MaxHead - 11, api.MaxHead, api.MaxHead + 4, api.MaxHead + 5, 3000} {
		reports(t, rep("x", at)+written(rep("y", api.MaxHead)), wrongHead, body(rep("y", api.MaxHead)))
	}
	long := "Content-Length: 1" + rep(" ", api.MaxHead)
	reports(t, long+"\r\n\r\na"+written("z"), wrongHead, body("z"))
	reports(t, long+long+long+written("z"), wrongHead, wrongHead, wrongHead, body("z"))
	// One that is too long, and in which a shorter one begins.
	reports(t, "Content-Length: 1\r\nx: y\r\nContent-Length: 1"+rep(" ", api.MaxHead-25)+"\r\n\r\na", wrongHead, body("a"))
	reports(t, "Content-Length: 1\r\nx: y\r\nContent-Length: 2"+rep(" ", api.MaxHead-17)+"\r\n\r\nab", wrongHead, body("ab"))
	reports(t, "Content-Length: 1\r\nx: y\r\nContent-Length: 2"+rep(" ", api.MaxHead-16)+"\r\n\r\nab", wrongHead, wrongHead)
}

// garbage: bytes that are no beginning of a valid head or a mark, and have no mark within.
func garbage() []string {
	l := []string{
		" ", "no", "no\r\n", "no\r\n\r\n", "\r\n", "\r\n\r\n", "\n\n", "\x00", "\xff\xfe", "{\"jsonrpc\":\"2.0\",\"id\":1}", "GET / HTTP/1.1\r\nHost: x\r\n\r\n",
		"content-length: 1\r\ncontent-length: 1\r\n", "content-length: 01\r\n", "content-length: -1\r\n\r\n", "content-length: 999999\r\n\r\n", "content-length 1", ": y\r\n", "x y: z\r\n", "x: y\r\n\r\n", "\r\r\n\n", rep("\r\n", 50), rep("x", api.MaxHead+4), rep("x", 10000), rep("x: y\r\n", 200), rep("no\r\n\r\n", 300), " Content-Length", " Content-", " C", "\r\nCContent-Length",
	}
	for _, size := range []int{1000, api.MaxHead - 25, api.MaxHead - 21, api.MaxHead - 20, api.MaxHead - 19, api.MaxHead - 18, api.MaxHead - 17, api.MaxHead - 16, api.MaxHead - 1, api.MaxHead, api.MaxHead + 1, api.MaxHead + 2, api.MaxHead + 3, api.MaxHead + 4, api.MaxHead + 5} {
		l = append(l, rep(" ", size), " "+rep("\r", size-1), " "+rep("x: y\r\n", 200)[:size-1])
	}
	return l
}

// P6.5: one error, then the frames that follow, whatever is wrong.
func TestRecovery(t *testing.T) {
	for _, s := range garbage() {
		for _, follow := range [][]string{{"a"}, {""}, {"", "b", written("c")}, {"\r\n\r\n", "Content-Length:", "z"}, {rep("x", 3000), "y"}} {
			all := s
			for _, body := range follow {
				all += written(body)
			}
			want := wrongHead
			if strings.Contains(s, "999999") {
				want = tooLarge
			}
			reports(t, all, append([]frame.Event{want}, bodies(follow...)...)...)
			same(t, all, feed(t, frame.New(), single(all)...), append([]frame.Event{want}, bodies(follow...)...))
		}
	}
}

// P6.5: the same again and again, between frames.
func TestManyRecoveries(t *testing.T) {
	all := ""
	var want []frame.Event
	for _, s := range garbage() {
		e := wrongHead
		if strings.Contains(s, "999999") {
			e = tooLarge
		}
		all += written("before") + s + written("behind")
		want = append(want, body("before"), e, body("behind"))
	}
	reports(t, all, want...)
	r := source()
	for range 20 {
		same(t, all, feed(t, frame.New(), cutUp(r, all)...), want)
	}
}

// P6.5: any bytes that cannot be a head's beginning, before a frame.
func TestRecoveryOfAnyBytes(t *testing.T) {
	r := source()
	for range 3000 {
		s := " " + someText(r, r.IntN(10))
		if strings.Contains(s, mark) {
			continue
		}
		all := s + written("a") + written("bc")
		want := []frame.Event{wrongHead, body("a"), body("bc")}
		same(t, all, feed(t, frame.New(), all), want)
		same(t, all, feed(t, frame.New(), cutUp(r, all)...), want)
	}
}
