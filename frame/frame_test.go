package frame_test

import (
	"math/rand/v2"
	"slices"
	"strconv"
	"strings"
	"testing"

	"rostrum/api"
	"rostrum/frame"
)

var (
	wrongHead = fault(api.ErrHead)
	tooLarge  = fault(api.ErrTooLarge)
)

// P6.1, P6.2: the chapter's examples.
func TestExamples(t *testing.T) {
	reports(t, "content-length: 2\r\nx: y\r\n\r\nabc", body("ab"))
	reports(t, "content-length: 2\r\nx: y\r\n\r\nabContent-Length: 1\r\n\r\nz", bodies("ab", "z")...)
	reports(t, "content-length: 2\r\nx: y\r\n\r\nabcontent-length: 1\r\n\r\nz", bodies("ab", "z")...)
	// c is the first byte of the next head.
	reports(t, "content-length: 2\r\nx: y\r\n\r\nabcContent-Length: 1\r\n\r\nz", body("ab"), wrongHead, body("z"))
	reports(t, "content-length: 2\r\nx: y\r\n\r\nabc: d\r\ncontent-length: 1\r\n\r\nz", bodies("ab", "z")...)
	reports(t, "x: y\r\n\r\nabcd\r\n\r\nContent-Length: 1\r\n\r\nz", wrongHead, body("z"))
	reports(t, "Content-Length: 999999999999\r\n\r\n", tooLarge)
	reports(t, "Content-Length: 007\r\n\r\n", wrongHead)
	if s, e := frame.Write("ab"); s != "Content-Length: 2\r\n\r\nab" || e != api.OK {
		t.Errorf("Write(ab): %q, %v", s, e)
	}
}

// P6.1: a reader that was given nothing reports nothing, and a frame as soon as its last byte is there, no sooner.
func TestAwaited(t *testing.T) {
	for _, s := range []string{"Content-Length: 2\r\n\r\nab", "Content-Length: 0\r\n\r\n", "cONTENT-lENGTH:1\r\nx:\r\n\r\n\x00"} {
		for i := range len(s) {
			reports(t, s[:i])
		}
		r := frame.New()
		same(t, "nothing", feed(t, r, ""), nil)
		same(t, s[:len(s)-1], feed(t, r, single(s[:len(s)-1])...), nil)
		same(t, s, feed(t, r, s[len(s)-1:]), bodies(s[strings.Index(s, "\r\n\r\n")+4:]))
		same(t, "nothing more", feed(t, r, "", "", ""), nil)
	}
}

// P6.1: heads that are valid, all of them of 3 bytes.
func TestValidHeads(t *testing.T) {
	for _, head := range []string{
		"Content-Length: 3", "content-length: 3", "CONTENT-LENGTH: 3", "cOnTeNt-LeNgTh: 3", "contenT-lengtH: 3",
		"Content-Length:3", "Content-Length:   3", "Content-Length:\t3", "Content-Length: \t \t3\t \t ", "Content-Length:3 ", "Content-Length:3\t",
		"x: y\r\nContent-Length: 3", "Content-Length: 3\r\nx: y", "a: b\r\nContent-Length: 3\r\nc: d\r\ne: f",
		"x:\r\nContent-Length: 3", "x: \t \r\nContent-Length: 3", "x:y:z\r\nContent-Length: 3", "x::\r\nContent-Length: 3", "x: Content-Length: 4\r\nContent-Length: 3",
		"x: y\r\nx: y\r\nX: z\r\nContent-Length: 3", "0: 1\r\nContent-Length: 3", "-: -\r\nContent-Length: 3", "--: 1\r\n9-a-Z: 2\r\nContent-Length: 3", "z: {}\"\\\r\nContent-Length: 3",
		"Content-Type: application/vscode-jsonrpc; charset=utf-8\r\nContent-Length: 3",
		"xContent-Length: 4\r\nContent-Length: 3", "Content-Lengthx: 4\r\nContent-Length: 3", "ContentLength: 4\r\nContent-Length: 3", "Content--Length: 4\r\nContent-Length: 3", "-Content-Length: 4\r\nContent-Length: 3", "Content-Length-: 4\r\nContent-Length: 3", "Content-: 1\r\nLength: 2\r\nContent-Length: 3",
		"x: \r y\r\nContent-Length: 3", "x: \n y\r\nContent-Length: 3", "x: \n\r\r\nContent-Length: 3", "x: \r\r\nContent-Length: 3", "x:\r\r\r\nContent-Length: 3",
		"x: \x00\x01\x7f\x80\xff\r\nContent-Length: 3", "x: \u00e9\U0001d11e\r\nContent-Length: 3",
	} {
		reports(t, head+"\r\n\r\nabc", body("abc"))
		reports(t, head+"\r\n\r\nabc"+head+"\r\n\r\n\r\n\r"+head, bodies("abc", "\r\n\r")...)
	}
}

// P6.1: heads that are not valid, for whatever reason.
func TestWrongHeads(t *testing.T) {
	for _, head := range []string{
		"", "x", "x: y", "x: y\r\nz: 1", "length: 3", "xcontent-length: 3", "Content-Lengthx: 3", "Content-Type: 3", "ContentLength: 3", "Content_Length: 3", "Content-Lengt: 3", "ontent-Length: 3",
		"content-length: 3\r\ncontent-length: 3", "content-length: 3\r\nCONTENT-LENGTH: 4", "content-length: 3\r\nx: y\r\ncontent-length: x", "content-length: x\r\ncontent-length: 3", "content-length:\r\ncontent-length: 3", "content-length: 3\r\ncontent-length: 3\r\ncontent-length: 3",
		"content-length", "content-length 3", "content-length=3", "content-length;3", "content-length: 3\r\nx", "x\r\ncontent-length: 3", "content-length: 3\r\nx y", "content-length: 3\r\nx=1", "content-length: 3\r\n x", "content-length: 3\r\nx\ty",
		"content-length: 3\r\n: x", ": x\r\ncontent-length: 3", "content-length: 3\r\n:", ":", "::", ": 3", "content-length: 3\r\n :x",
		"\r\ncontent-length: 3",
		"content-length : 3", "content-length\t: 3", " content-length: 3", "\tcontent-length: 3", "content -length: 3", "content-length: 3\r\nx : y", "content-length: 3\r\n x: y", "content-length: 3\r\nx y: z", "content-length: 3\r\n\tx: y",
		"\rcontent-length: 3", "\ncontent-length: 3", "content-length: 3\r\n\rx: y", "content-length: 3\r\n\nx: y", "content-length: 3\r\nx\r: y", "content-length: 3\r\nx\n: y", "x: y\ncontent-length: 3", "x: y\rcontent-length: 3", "x: y\n\rcontent-length: 3",
		"content-length: 3\r", "content-length: 3\n", "content-length: \r3", "content-length: \n3", "content-length: 3\nx: y", "content-length: 3\rx: y", "content-length: 3\r\r", "content-length:\n 3",
		"\ufeffcontent-length: 3", "content\u2010length: 3", "content-length\u00a0: 3", "content-length\uff1a 3", "\u017fontent-length: 3", "content-length: 3\r\n\u212a: y", "content-length: 3\r\n\u00e9: y", "content-length: 3\r\n\xff: y", "content-length: 3\r\nx\x80: y", "content-length: 3\r\n\u0660: y",
		"{\"jsonrpc\":\"2.0\"}", "GET / HTTP/1.1\r\ncontent-length: 3",
	} {
		reports(t, head+"\r\n\r\n", wrongHead)
		reports(t, head+"\r\n\r\nabc"+written("def"), wrongHead, body("def"))
	}
}

// P6.1: each byte in a name: letters, digits and - are all that it may have; the value may have each one.
func TestBytesOfLines(t *testing.T) {
	const allowed = "ABCDEFGHIJKLMNOPQRSTUVWXYZabcdefghijklmnopqrstuvwxyz0123456789-"
	for b := range 256 {
		c := string([]byte{byte(b)})
		for _, name := range []string{c, "a" + c, c + "a", "a" + c + "a"} {
			want := bodies("abc")
			if !strings.Contains(allowed, c) {
				want = []frame.Event{wrongHead}
			}
			if c == ":" && name != c && name != c+"a" {
				want = bodies("abc") // the name is before it
			}
			reports(t, name+": y\r\ncontent-length: 3\r\n\r\nabc", want...)
			reports(t, "content-length: 3\r\n"+name+": y\r\n\r\nabc", want...)
		}
		for _, value := range []string{c, c + c, "a" + c + "a", " " + c + "\t"} {
			reports(t, "x:"+value+"\r\ncontent-length: 3\r\n\r\nabc", body("abc"))
			reports(t, "content-length: 3\r\nx:"+value+"\r\n\r\nabc", body("abc"))
		}
		// A length has nothing but digits, and blanks around it.
		for _, value := range []string{c + "3", "3" + c, "3" + c + "3"} {
			s := "content-length:" + value + "\r\n\r\n" + rep("x", 999)
			l := feed(t, frame.New(), s)
			same(t, s, l, model(s))
			right := c != "0" && c >= "1" && c <= "9" || c == "0" && value != "03" || (c == " " || c == "\t") && value != "3"+c+"3"
			if right != (l[0].E == api.OK) {
				t.Errorf("%s: %s", short(s), shown(l))
			}
		}
	}
}

// P6.1: lengths as R7 writes them, and all else.
func TestLengths(t *testing.T) {
	for _, value := range []string{
		"", "-0", "-1", "-3", "+3", "+0", "00", "01", "03", "007", "000000000", "0003", "-", "+", "--3", "3-", "3.0", "3.", ".3", "3e0", "3E0", "0x3", "0b11", "0o3", "3_0", "1,000", "1 000", "3\t3", "3 3", "3;", "3,3", "\"3\"", "(3)", "three", "x", "3x", "x3",
		"\u0663", "\uff13", "3\u0660", "\u00b3", "3\u00a0", "\u00a03", "\u20033", "3\x0b", "\x0c3", "3\x00", "\x003", "3\x85", "\xff", "NaN", "inf",
		"-9223372036854775808", "0" + rep("9", 900), "-" + rep("9", 900), rep("9", 900) + "x", rep("0", 900), "00000262145", "0999999999999", "-999999999999",
	} {
		reports(t, "content-length: "+value+"\r\n\r\nabc", wrongHead)
	}
	for _, value := range []string{
		"262145", "262146", "262150", "262200", "263000", "270000", "300000", "999999", "1000000", "2621440",
		"2147483647", "2147483648", "4294967295", "4294967296", "4294967299", "9223372036854775807", "9223372036854775808", "9223372036854775811", "18446744073709551615", "18446744073709551616", "18446744073709551619", "36893488147419103235", "340282366920938463463374607431768211459",
		"1" + rep("0", 900), rep("9", 900), "3" + rep("0", 970), rep("9", 980),
	} {
		reports(t, "content-length: "+value+"\r\n\r\nabc", tooLarge)
		reports(t, "content-length:\t "+value+" \t\r\nx: y\r\n\r\nabc"+written("z"), tooLarge, body("z"))
		// A head that is not valid has no length.
		reports(t, "content-length: "+value+"\r\nx\r\n\r\nabc", wrongHead)
		reports(t, "content-length: "+value+"\r\ncontent-length: 3\r\n\r\nabc", wrongHead)
		reports(t, "content-length: "+value+"\r\ncontent-length: "+value+"\r\n\r\nabc", wrongHead)
	}
	for size := range 1200 {
		reports(t, written(rep("x", size))+written("y"), bodies(rep("x", size), "y")...)
	}
}

// headOf: a valid head without its last line end's end, of so many bytes, and its length is 3.
func headOf(size int) string {
	const first = "Content-Length: 3\r\nx:"
	return first + rep("y", size-len(first))
}

// P6.1: the end of the head begins at the last of the first MaxHead + 1 bytes, and one byte behind it.
func TestMaxHead(t *testing.T) {
	for _, size := range []int{100, api.MaxHead - 2, api.MaxHead - 1, api.MaxHead} {
		reports(t, headOf(size)+"\r\n\r\nabc", body("abc"))
		reports(t, written("")+headOf(size)+"\r\n\r\nabc"+headOf(size)+"\r\n\r\ndefg", bodies("", "abc", "def")...)
		reports(t, rep("x", size)+"\r\n\r\n", wrongHead)
	}
	for _, size := range []int{api.MaxHead + 1, api.MaxHead + 2, api.MaxHead + 3, api.MaxHead + 4, api.MaxHead + 1000} {
		reports(t, headOf(size)+"\r\n\r\nabc", wrongHead)
		reports(t, headOf(size)+"\r\n\r\nabc"+written("z"), wrongHead, body("z"))
		reports(t, written("")+headOf(size)+"\r\n\r\nabc", body(""), wrongHead)
	}
	for _, s := range []string{headOf(api.MaxHead) + "\r\n\r\nabc", headOf(api.MaxHead+1) + "\r\n\r\nabc", rep("x: y\r\n", 300) + "\r\n"} {
		holds(t, s)
	}
}

// P6.1: MaxHead + 4 bytes without the end of a head, and one byte less, whatever they are.
func TestLongHeads(t *testing.T) {
	const most = api.MaxHead + 4
	for _, s := range []string{
		rep("x", most), rep("x: y\r\n", most), rep("\r", most), rep("\n", most), rep("\n\n", most), rep("\r\r\n", most), rep("\x00", most), rep("\xff", most),
		"Content-Length: 3\r\n" + rep("x", most), "Content-Length: 3\n\n" + rep("x", most), headOf(most), headOf(most-3) + "\r\n\rx", headOf(most-2) + "\r\n", headOf(most-3) + "\r\n\r", headOf(most-1) + "\r",
	} {
		s = s[:most]
		reports(t, s[:most-1])
		reports(t, s, wrongHead)
		r := frame.New()
		same(t, s[:most-1], feed(t, r, single(s[:most-1])...), nil)
		same(t, s, feed(t, r, s[most-1:]), []frame.Event{wrongHead})
		same(t, s+" and more", feed(t, r, rep("z", 5000), written("a")), bodies("a"))
	}
	// With its last byte such a head is one that ends within the limit.
	s := headOf(api.MaxHead) + "\r\n\r\n"
	r := frame.New()
	same(t, s[:most-1], feed(t, r, s[:most-1]), nil)
	same(t, s, feed(t, r, s[most-1:], "ab", "c"), bodies("abc"))
}

// sizes: of bodies, around the limit and far from it.
func sizes() []int {
	return []int{0, 1, 2, 9, 10, 11, 99, 100, 4095, 4096, 65536, api.MaxJSON - 1, api.MaxJSON}
}

// P6.1: bodies of 0 bytes, of MaxJSON bytes and of one more, which are read.
func TestBodies(t *testing.T) {
	r := source()
	for _, size := range sizes() {
		s := someBytes(r, size)
		reports(t, written(s), body(s))
		reports(t, written(s)+written("a")+written(s), bodies(s, "a", s)...)
		if size > 0 {
			reports(t, written(s)[:len(written(s))-1])
		}
	}
	s := someBytes(r, api.MaxJSON+1)
	reports(t, written(s), model(written(s))...)
	reports(t, written(rep("x", api.MaxJSON+1)), tooLarge)
	reports(t, written(rep("x", api.MaxJSON+1))+written("a"), tooLarge, body("a"))
	reports(t, rep(written(""), 3)+"x\r\n\r\n"+rep(written(""), 2), body(""), body(""), body(""), wrongHead, body(""), body(""))
}

// P6.1: a body may have what ends a head, and what a head begins with.
func TestBodiesAsHeads(t *testing.T) {
	for _, s := range []string{
		"\r\n\r\n", "\n", "\r", "Content-Length:", "Content-Length: 5\r\n\r\n", written("abc"), written(written("abc")), "x\r\n\r\n" + written("abc"), "Content-Length", "content-length: 9\r\n\r\n", rep("\r\n", 2000), rep("Content-Length:", 1000), "\x00\xff\xfe", " \t ", "{}",
	} {
		reports(t, written(s), body(s))
		reports(t, written(s)+written("z")+written(s), bodies(s, "z", s)...)
	}
}

// P6.2: Write, of sizes up to the limit and one more, and of any bytes.
func TestWrite(t *testing.T) {
	r := source()
	for _, size := range sizes() {
		s := someBytes(r, size)
		if got, e := frame.Write(s); got != "Content-Length: "+strconv.Itoa(size)+"\r\n\r\n"+s || e != api.OK {
			t.Errorf("Write of %d bytes: %s, %v", size, short(got), e)
		}
	}
	for _, size := range []int{api.MaxJSON + 1, api.MaxJSON + 2, 2 * api.MaxJSON, 10 * api.MaxJSON} {
		if got, e := frame.Write(rep("x", size)); got != "" || e != api.ErrTooLarge {
			t.Errorf("Write of %d bytes: %s, %v", size, short(got), e)
		}
	}
}

// writtenBack: P6.4 for some bodies, in one chunk and in several.
func writtenBack(t *testing.T, r *rand.Rand, l []string) {
	t.Helper()
	all := ""
	for _, s := range l {
		got, e := frame.Write(s)
		if e != api.OK {
			t.Fatalf("Write(%s): %v", short(s), e)
		}
		all += got
	}
	same(t, all, feed(t, frame.New(), all), bodies(l...))
	same(t, all+" in chunks", feed(t, frame.New(), cutUp(r, all)...), bodies(l...))
}

// P6.4: what Write returns for several bodies is reported as these.
func TestBack(t *testing.T) {
	r := source()
	for n := range 300 {
		var l []string
		for range n % 20 {
			l = append(l, someText(r, r.IntN(4)))
		}
		writtenBack(t, r, l)
	}
	most := someBytes(r, api.MaxJSON)
	writtenBack(t, r, []string{most, "", most, "", "", most, "a"})
	writtenBack(t, r, slices.Repeat([]string{""}, 5000))
}

// R1: nobody's reader, for each call.
func TestNil(t *testing.T) {
	var r *frame.Reader
	for _, s := range []string{"", "x", "x\r\n\r\n", written("ab")} {
		if l, e := r.Feed([]byte(s)); len(l) != 0 || e != api.ErrNil {
			t.Errorf("Feed(%q) of nil: %s, %v", s, shown(l), e)
		}
	}
	if l, e := r.Feed(nil); len(l) != 0 || e != api.ErrNil {
		t.Errorf("Feed(nil) of nil: %s, %v", shown(l), e)
	}
	if r.Copy() != nil {
		t.Error("a copy of nil")
	}
}

// R1: a reader that New did not make may report anything, but it does not panic.
func TestNobodysReader(t *testing.T) {
	for _, r := range []*frame.Reader{{}, new(frame.Reader).Copy(), (*new(frame.Reader)).Copy()} {
		for _, s := range []string{"", written("ab"), "x\r\n\r\n", written("ab"), rep("x", 5000), "Content-Length: 999999\r\n\r\n"} {
			r.Feed([]byte(s))
			r.Copy().Feed([]byte(s))
		}
		r.Feed(nil)
	}
}

// P6.1: New returns readers of their own.
func TestReadersApart(t *testing.T) {
	a, b := frame.New(), frame.New()
	same(t, "a", feed(t, a, "Content-Length: 2\r\n"), nil)
	same(t, "b", feed(t, b, "x\r\n\r\n"), []frame.Event{wrongHead})
	same(t, "a", feed(t, a, "\r\na"), nil)
	same(t, "b", feed(t, b, written("z")), bodies("z"))
	same(t, "a", feed(t, a, "b"), bodies("ab"))
	same(t, "another", feed(t, frame.New(), written("c")), bodies("c"))
}
