package json_test

import (
	"strconv"
	"strings"
	"testing"

	"rostrum/api"
	"rostrum/dec"
	"rostrum/json"
)

// rep is a text, so many times.
func rep(s string, times int) string { return strings.Repeat(s, times) }

// parses checks Parse by hand.
func parses(t *testing.T, s string, want api.Json) {
	t.Helper()
	if j, e := json.Parse(s); e != api.OK || !alike(j, want) {
		t.Errorf("Parse(%s): %s, %v, not %s", short(s), short(textOf(j)), e, short(textOf(want)))
	}
}

// fails checks by hand that Parse returns an error, and nothing beside it.
func fails(t *testing.T, s string, want api.Errno) {
	t.Helper()
	if j, e := json.Parse(s); e != want || !isZero(j) {
		t.Errorf("Parse(%s): %s, %v, not %v", short(s), short(textOf(j)), e, want)
	}
}

// P5.1: the chapter's examples.
func TestExamples(t *testing.T) {
	s := `{ "a" : [1.50, null], "\u00e9" : "\ud834\udd1e" }`
	want := obj("a \u00e9", arr(num("15e-1"), null), str("\U0001d11e"))
	parses(t, s, want)
	if text, e := json.Print(want); text != "{\"a\":[15e-1,null],\"\u00e9\":\"\U0001d11e\"}" || e != api.OK {
		t.Errorf("Print: %s, %v", text, e)
	}
	fails(t, `"\ud834"`, api.ErrForm)
	fails(t, `[1,]`, api.ErrForm)
	fails(t, `{"a":1,"a":2}`, api.ErrTwice)
	fails(t, `01`, api.ErrForm)
	fails(t, rep("[", 65), api.ErrDeep)
	fails(t, ``, api.ErrForm)
	fails(t, `1e99999`, api.ErrTooLarge)
}

// P5.1: values of every Kind, by hand.
func TestParse(t *testing.T) {
	for s, want := range map[string]api.Json{
		"null": null, "true": yes, "false": no, "0": num("0"), "-12.50": num("-125e-1"), `""`: str(""), `"a b"`: str("a b"),
		"[]": arr(), "{}": obj(""), "[[]]": arr(arr()), "[{}]": arr(obj("")), "[[],[]]": arr(arr(), arr()),
		"[null,true,false]": arr(null, yes, no), `[1,"1"]`: arr(num("1"), str("1")),
		`{"a":1}`: obj("a", num("1")), `{"b":1,"a":2}`: obj("b a", num("1"), num("2")), `{"a":{"a":{"a":[]}}}`: obj("a", obj("a", obj("a", arr()))),
		`{"a":1,"A":1,"a ":1}`: {Kind: api.Object, Names: []string{"a", "A", "a "}, List: []api.Json{num("1"), num("1"), num("1")}},
		`{"":""}`:              {Kind: api.Object, Names: []string{""}, List: []api.Json{str("")}},
		`[{"a":1},{"a":1}]`:    arr(obj("a", num("1")), obj("a", num("1"))),
		`{"a":{"b":1},"b":2}`:  obj("a b", obj("b", num("1")), num("2")),
		`["null",null]`:        arr(str("null"), null),
		" \t\n\r1\r\n\t ":      num("1"),
	} {
		parses(t, s, want)
		holds(t, s)
	}
}

// P5.1: a number stands for its canonical form, and is taken as far as the bytes of numbers go; the error is that of dec.Own.
func TestNumbers(t *testing.T) {
	for _, s := range []string{
		"0", "-0", "0.0", "0e99999", "-0.00E-5", "1", "10", "100", "-1", "1.0", "1.50", "0.10", "1e2", "1E2", "1e+2", "1e-2", "1e002", "100e-2", "12.5e1", "1e9999", "1e-9999", rep("9", 200), rep("9", 200) + "000", "1" + rep("0", 9999), "0." + rep("0", 20000) + "1e20001",
		"1e10000", "1e-10000", "10e9999", "1e99999", rep("9", 201), "1" + rep("0", 10000),
		"-", "+", ".", "e", "E", "+1", "-+1", "--1", "01", "-01", "00", "1.", ".5", "-.5", "1.e5", "1e", "1e+", "1e-", "1e1.5", "1.5.5", "1-1", "1+1", "1e5e5", "1E99999.", "-e", "0-", "00e99999", "e1", "E+5",
	} {
		own, want := dec.Own(s)
		if want == api.OK {
			parses(t, s, num(own))
			parses(t, "["+s+"]", arr(num(own)))
			parses(t, `{"a":`+s+` , "b":`+s+`}`, obj("a b", num(own), num(own)))
			fails(t, s+"x", api.ErrForm)
			fails(t, s+" "+s, api.ErrForm)
			continue
		}
		for _, text := range []string{s, "[" + s, "[" + s + "x", "[0," + s + "]", `{"a":` + s + `"`, s + "\x00", s + " 01"} {
			fails(t, text, want)
		}
	}
}

// P5.1: every character as itself, of one byte to four, and where it has two units.
func TestCharacters(t *testing.T) {
	for point := rune(0x20); point <= 0x10FFFF; point++ {
		if point == '"' || point == '\\' || point >= 0xD800 && point <= 0xDFFF {
			continue
		}
		char := string(point)
		s := `"` + char + `"`
		if j, e := json.Parse(s); e != api.OK || j.Kind != api.String || j.Text != char {
			t.Fatalf("Parse(%q): %q, %v", s, j.Text, e)
		}
		if text, e := json.Print(str(char)); e != api.OK || text != s {
			t.Fatalf("Print of %q: %q, %v", char, text, e)
		}
	}
}

// P5.1: every unit as \u and digits, small ones, great ones and both; a half alone is none.
func TestUnits(t *testing.T) {
	for unit := range 0x10000 {
		digits := strconv.FormatInt(int64(unit)+0x10000, 16)[1:]
		for _, digits := range []string{digits, strings.ToUpper(digits), digits[:2] + strings.ToUpper(digits[2:])} {
			s := `"\u` + digits + `"`
			if unit >= 0xD800 && unit <= 0xDFFF {
				fails(t, s, api.ErrForm)
			} else {
				parses(t, s, str(string(rune(unit))))
			}
		}
	}
}

// P5.1: the units of a pair, in all ways in which they may stand side by side or not.
func TestPairs(t *testing.T) {
	for point := rune(0x10000); point <= 0x10FFFF; point += 0x3F {
		high, low := 0xD800+(point-0x10000)>>10, 0xDC00+(point-0x10000)&0x3FF
		small := func(unit rune) string { return `\u` + strconv.FormatInt(int64(unit), 16) }
		great := func(unit rune) string { return `\u` + strings.ToUpper(strconv.FormatInt(int64(unit), 16)) }
		parses(t, `"`+small(high)+small(low)+`"`, str(string(point)))
		parses(t, `"`+great(high)+small(low)+`x"`, str(string(point)+"x"))
		fails(t, `"`+small(low)+great(high)+`"`, api.ErrForm)
	}
	parses(t, `"\ud800\udc00\udbff\udfff"`, str("\U00010000\U0010ffff"))
	parses(t, `"\ud7ff\ue000"`, str("\ud7ff\ue000"))
	for _, s := range []string{
		`\ud834`, `\udd1e`, `\ud834x`, `\ud834 \udd1e`, `\ud834\u0041`, `\ud834\ud834`, `\ud834\ud834\udd1e`, `\udd1e\udd1e`, `\ud834\udd1e\udd1e`, `\ud834\udd1e\ud834`, `\ud834\n`, `\ud834\\udd1e`, `\ud834\`, `\ud834\u`, `\ud834\udd1`, `\ud834\udbff`, `\ud834\ue000`, `\udbff\ufffd`,
		"\\ud834\U0001d11e", "\\ud834\xed\xb4\x9e", "\xed\xa0\xb4\\udd1e", "\xed\xa0\xb4\xed\xb4\x9e", `\ud834/udd1e`, `\ud834u\dd1e`, `\ud834\Udd1e`,
	} {
		fails(t, `"`+s+`"`, api.ErrForm)
		fails(t, `{"`+s+`":1}`, api.ErrForm)
		holds(t, `["`+s+`"]`)
	}
}

// P5.1: every byte after \ , every byte as itself, and digits that are none.
func TestBytesOfStrings(t *testing.T) {
	after := map[byte]string{'"': "\"", '\\': "\\", '/': "/", 'b': "\b", 'f': "\f", 'n': "\n", 'r': "\r", 't': "\t"}
	for n := range 256 {
		b := string([]byte{byte(n)})
		if meant, ok := after[byte(n)]; ok {
			parses(t, `"\`+b+`"`, str(meant))
			parses(t, `"x\`+b+`y"`, str("x"+meant+"y"))
		} else {
			fails(t, `"\`+b+`"`, api.ErrForm)
			holds(t, `"x\`+b+`0041y"`)
		}
		switch {
		case n < 0x20 || n >= 0x80 || n == '"' || n == '\\':
			fails(t, `"`+b+`"`, api.ErrForm)
			fails(t, `{"`+b+`":1}`, api.ErrForm)
		default:
			parses(t, `"`+b+`"`, str(b))
		}
		for place := range 4 {
			digits := "1aF0"[:place] + b + "1aF0"[place+1:]
			holds(t, `"\u`+digits+`"`)
			holds(t, `"\ud834\u`+digits+`"`)
		}
	}
	for _, s := range []string{`\u`, `\u1`, `\u12`, `\u123`, `\u+123`, `\u-123`, `\u 123`, `\u0x12`, `\u1_23`, `\u123g`, `\u{41}`, `\U0041`, `\x41`, `\101`, `\0`, `\'`, `\a`, `\v`, `\e`, "\\\n", "\\\u00e9", "\\u\uff11\uff11\uff11\uff11"} {
		fails(t, `"`+s+`"`, api.ErrForm)
		fails(t, `{"`+s+`":1}`, api.ErrForm)
	}
	parses(t, `"\u00411"`, str("A1"))
	parses(t, `"\\u0041"`, str(`\u0041`))
	parses(t, `"\\\\\""`, str(`\\"`))
}

// P5.1: what is no UTF-8, alone and among characters, also where only what \u stands for comes between.
func TestStrayBytes(t *testing.T) {
	for _, s := range []string{"\x80", "\xbf", "\xc3", "\xc0\x80", "\xc1\xbf", "\xe2\x82", "\xe0\x80\x80", "\xed\xa0\x80", "\xed\xbf\xbf", "\xf0\x9d\x84", "\xf0\x80\x80\x80", "\xf4\x90\x80\x80", "\xf8\x88\x80\x80\x80", "\xfe", "\xff"} {
		for _, text := range []string{s, "a" + s, s + "a", "\u00e9" + s, s + "\U0001d11e", s + `\n`, s + `\u0082`, `\u00e9` + s} {
			fails(t, `"`+text+`"`, api.ErrForm)
			fails(t, `{"`+text+`":1}`, api.ErrForm)
		}
		fails(t, s, api.ErrForm)
		fails(t, s+"1", api.ErrForm)
		fails(t, "1"+s, api.ErrForm)
		fails(t, "["+s+"]", api.ErrForm)
	}
}

// P5.1: a name is refused the second time at its end, in whatever way it is written; in other Objects it may occur.
func TestNamesTwice(t *testing.T) {
	for name, other := range map[string]string{
		`"a"`: `"\u0061"`, `"\u0041"`: `"A"`, `""`: `""`, `"\n"`: `"\u000A"`, `"/"`: `"\/"`, `"\""`: `"\u0022"`, `"\\"`: `"\u005C"`, "\"\u00e9\"": `"\u00E9"`, "\"\U0001d11e\"": `"\uD834\udd1e"`, `"\ud834\uDD1E"`: `"\uD834\uDD1E"`, `"\b"`: `"\u0008"`,
	} {
		for _, l := range [][2]string{{name, name}, {name, other}, {other, name}, {other, other}} {
			begin := "{" + l[0] + ":1," + l[1]
			for _, end := range []string{":1}", ":x", "", "x", ":1e99999}", `,"\ud834"`, "}"} {
				fails(t, begin+end, api.ErrTwice)
				fails(t, "["+begin+end, api.ErrTwice)
			}
			fails(t, "{"+l[0]+`:1,"other":2,`+l[1]+":3}", api.ErrTwice)
			fails(t, `{"first":{},`+l[0]+`:1,`+l[1]+":3}", api.ErrTwice)
			inner, _ := json.Parse(l[0])
			if j, e := json.Parse("{" + l[0] + ":{" + l[1] + ":1}}"); e != api.OK || j.Names[0] != inner.Text || j.List[0].Names[0] != inner.Text {
				t.Errorf("%s within %s: %v", l[1], l[0], e)
			}
			fails(t, "{"+l[0]+":{"+l[1]+":1},"+l[1], api.ErrTwice)
		}
	}
	fails(t, `{"a":1,"a`, api.ErrForm)
	fails(t, `{"a":1,"a\`, api.ErrForm)
	fails(t, `{"a":1,a`, api.ErrForm)
	fails(t, `{"a":x,"a":1}`, api.ErrForm)
	fails(t, `{"a":1e99999,"a":1}`, api.ErrTooLarge)
	fails(t, `{"a"x,"a":1}`, api.ErrForm)
	fails(t, `{"a":1 "a":1}`, api.ErrForm)
	fails(t, `{"a":1,"b":2,"c":3,"b":4}`, api.ErrTwice)
}

// P5.1: of two errors the one further left is returned, whatever they are.
func TestErrorsFromTheLeft(t *testing.T) {
	wrong := map[string]api.Errno{
		"01": api.ErrForm, "nul": api.ErrForm, `"\x"`: api.ErrForm, `"\ud834"`: api.ErrForm, "\"\xff\"": api.ErrForm, `{"a" 1}`: api.ErrForm, "[1 2]": api.ErrForm, "[1,]": api.ErrForm, `{"a":1,}`: api.ErrForm, "{1:1}": api.ErrForm, "[}": api.ErrForm, "{]": api.ErrForm,
		"1e99999": api.ErrTooLarge, rep("9", 201): api.ErrTooLarge, `{"b":[1e-99999]}`: api.ErrTooLarge,
		`{"a":1,"a":1}`: api.ErrTwice, `[{"a":1,"\u0061"`: api.ErrTwice,
		rep("[", 64): api.ErrDeep, rep(`{"a":`, 64): api.ErrDeep, rep("[1,", 64): api.ErrDeep,
	}
	for s, want := range wrong {
		for other := range wrong {
			fails(t, "["+s+","+other+"]", want)
			fails(t, `[1,{"x":[],"y":[`+s+`], "z":`+other, want)
			fails(t, `{"x":`+s+`,"x":`+other, want)
			fails(t, "[true, "+s+","+rep("[", 70)+"}"+other, want)
		}
	}
	fails(t, `{"a":1,"a":01`, api.ErrTwice)
	fails(t, `{"a":01,"a":1`, api.ErrForm)
	fails(t, `{"a":1e99999,"a":1`, api.ErrTooLarge)
}

// samples are JSON texts that have all that a text can have.
var samples = []string{
	"null", " true ", "\tfalse\n", "-1.50e+2", `"a\n\u00e9\ud834\udd1e/\/"`, "[]", "[ ]", "{}", "{ }", "[1,[2 , null],\r\n{}]", `{"a":1,"b":{"a":[true,""]},"":0}`, "{ \"\u00e9\" : [ \"\U0001d11e\" , false ] , \"\\u20ac\" : 0e5 }",
}

// P5.1: a premature end at every place of a text, and something after its value.
func TestPrematureEnds(t *testing.T) {
	for _, s := range samples {
		for i := range len(s) {
			fails(t, "["+s[:i], api.ErrForm)
			fails(t, `{"":`+s[:i], api.ErrForm)
			holds(t, s[:i])
		}
		if !holds(t, s) {
			t.Errorf("%s is refused", s)
		}
		for _, end := range []string{"x", "]", "}", ",", ":", "\x00", "\xff", "\ufeff", "null", "\"", "[]", "//", "/**/", "\x0b", "\x0c", "\u00a0", "\u2028"} {
			fails(t, s+end, api.ErrForm)
			fails(t, s+" "+end, api.ErrForm)
			holds(t, end+s)
		}
		fails(t, s+" "+s, api.ErrForm)
	}
}

// P5.1: at each place of a text one byte more, one less, and another one.
func TestWrongTexts(t *testing.T) {
	right, all := 0, 0
	try := func(s string) {
		all++
		if holds(t, s) {
			right++
		}
	}
	for _, s := range samples {
		for i := range len(s) + 1 {
			for b := range 256 {
				try(s[:i] + string([]byte{byte(b)}) + s[i:])
				if i < len(s) {
					try(s[:i] + string([]byte{byte(b)}) + s[i+1:])
				}
			}
			for _, x := range []string{"null", "1e99999", "[]", `{"a":1,"a"`, `,"a":1`, `\u`, `\ud834`, "\u00a0", "\ufeff", "\u2028", "\xed\xa0\x80", "//", "/*", "NaN", "'", "nulL", "True"} {
				try(s[:i] + x + s[i:])
			}
			if i < len(s) {
				try(s[:i] + s[i+1:])
			}
		}
	}
	if right < all/20 || right > all/2 {
		t.Errorf("%d of %d were right", right, all)
	}
}

// P5.1: every row of a few tokens, right or wrong.
func TestRowsOfTokens(t *testing.T) {
	right := 0
	row := func(most int, tokens ...string) {
		var grow func(s string, size int)
		grow = func(s string, size int) {
			if holds(t, s) {
				right++
			}
			if size == most {
				return
			}
			for _, token := range tokens {
				grow(s+token, size+1)
			}
		}
		grow("", 0)
	}
	row(6, "[", "]", "{", "}", ",", ":", `"a"`)
	row(6, "{", "}", ",", ":", `"a"`, "1")
	row(5, "[", "]", "{", "}", ",", ":", `"a"`, `"\u0061"`, "1", " ", "e5")
	row(4, "[", "\"", "\\", "u", "00e9", "d834", `\udd1e`, "null", "-", "0", ".", "1e9999", "\n", "\x00", "\x7f", "\xc3", "\xa9")
	if right < 400 {
		t.Errorf("just %d were right", right)
	}
}
