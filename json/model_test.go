package json_test

import (
	library "encoding/json"
	"math/rand/v2"
	"regexp"
	"slices"
	"strconv"
	"strings"
	"testing"
	"unicode/utf16"
	"unicode/utf8"

	"rostrum/api"
	"rostrum/dec"
	"rostrum/json"
)

// The chapter's terms, as plainly as they are written there, so that the package is held against something that shares no code with it (but package dec, which has tests of its own).

var (
	null = api.Json{Kind: api.Null}
	yes  = api.Json{Kind: api.True}
	no   = api.Json{Kind: api.False}
)

func num(s string) api.Json { return api.Json{Kind: api.Number, Text: s} }

func str(s string) api.Json { return api.Json{Kind: api.String, Text: s} }

func arr(l ...api.Json) api.Json { return api.Json{Kind: api.Array, List: l} }

// obj: names, separated by blanks, and their values.
func obj(names string, l ...api.Json) api.Json {
	return api.Json{Kind: api.Object, Names: strings.Fields(names), List: l}
}

// pair: an Object of one name, any one, and its value.
func pair(name string, j api.Json) api.Json {
	return api.Json{Kind: api.Object, Names: []string{name}, List: []api.Json{j}}
}

// nested: a value within so many Arrays.
func nested(times int, j api.Json) api.Json {
	for range times {
		j = arr(j)
	}
	return j
}

// short is a text for a message.
func short(s string) string {
	if len(s) > 80 {
		s = s[:40] + ".." + s[len(s)-40:] + ": " + strconv.Itoa(len(s)) + " bytes"
	}
	return strconv.Quote(s)
}

// alike: two values, valid or not.
func alike(a, b api.Json) bool {
	if a.Kind != b.Kind || a.Text != b.Text || len(a.Names) != len(b.Names) || len(a.List) != len(b.List) {
		return false
	}
	for i := range a.Names {
		if a.Names[i] != b.Names[i] {
			return false
		}
	}
	for i := range a.List {
		if !alike(a.List[i], b.List[i]) {
			return false
		}
	}
	return true
}

// isZero: nothing at all.
func isZero(j api.Json) bool { return alike(j, api.Json{}) }

// textOf: the text of a valid value.
func textOf(j api.Json) string {
	switch j.Kind {
	case api.Null, api.True, api.False:
		return []string{"null", "true", "false"}[j.Kind-api.Null]
	case api.Number:
		return j.Text
	case api.String:
		return quote(j.Text)
	}
	var parts []string
	for i, part := range j.List {
		text := textOf(part)
		if j.Kind == api.Object {
			text = quote(j.Names[i]) + ":" + text
		}
		parts = append(parts, text)
	}
	if j.Kind == api.Object {
		return "{" + strings.Join(parts, ",") + "}"
	}
	return "[" + strings.Join(parts, ",") + "]"
}

// quote: a String's text, by a list of all bytes that are not written as themselves.
func quote(s string) string {
	l := []string{`\`, `\\`, `"`, `\"`, "\x08", `\b`, "\x0C", `\f`, "\x0A", `\n`, "\x0D", `\r`, "\x09", `\t`}
	for b := range 0x20 {
		if !slices.Contains(l, string(rune(b))) {
			l = append(l, string(rune(b)), `\u00`+[]string{"0", "1"}[b/16]+strconv.FormatInt(int64(b%16), 16))
		}
	}
	return `"` + strings.NewReplacer(l...).Replace(s) + `"`
}

var (
	quoted  = regexp.MustCompile(`\A"(?:[^"\\\x00-\x1F]|\\["\\/bfnrt]|\\u[0-9a-fA-F]{4})*"`)
	word    = regexp.MustCompile(`\A(?:null|true|false)`)
	decimal = regexp.MustCompile(`\A[0-9+.eE-]+`)
)

// content: what a String means; false if it is not valid, or a half lacks its other half.
func content(text string) (string, bool) {
	if !utf8.ValidString(text) {
		return "", false
	}
	var units []uint16
	for rest := text[1 : len(text)-1]; rest != ""; {
		point, size := utf8.DecodeRuneInString(rest)
		switch {
		case point != '\\':
			units = utf16.AppendRune(units, point)
		case rest[1] == 'u':
			n, _ := strconv.ParseUint(rest[2:6], 16, 16)
			units, size = append(units, uint16(n)), 6
		default:
			meant := map[byte]uint16{'"': 0x22, '\\': 0x5C, '/': 0x2F, 'b': 8, 'f': 0xC, 'n': 0xA, 'r': 0xD, 't': 9}
			units, size = append(units, meant[rest[1]]), 2
		}
		rest = rest[size:]
	}
	points := utf16.Decode(units)
	// A half alone is decoded as another character.
	return string(points), slices.Equal(utf16.Encode(points), units)
}

// What must come next.
const (
	aValue = iota
	aValueOrEnd
	aName
	aNameOrEnd
	aColon
	aCommaOrEnd
)

// reading goes through a text from token to token, without recursion: the lists that are open stand on a stack, whose lowest one holds the value of the whole.
type reading struct {
	rest  string
	need  int
	begun int
	stack []api.Json
}

// modelParse: what Parse must return.
func modelParse(s string) (api.Json, api.Errno) {
	if len(s) > 262144 {
		return api.Json{}, api.ErrTooLarge
	}
	r := &reading{rest: s, stack: []api.Json{{}}}
	for {
		r.rest = strings.TrimLeft(r.rest, " \t\n\r")
		if r.need == aCommaOrEnd && len(r.stack) == 1 {
			break
		}
		if e := r.step(); e != api.OK {
			return api.Json{}, e
		}
	}
	if r.rest != "" {
		return api.Json{}, api.ErrForm
	}
	return r.stack[0].List[0], api.OK
}

// step reads one token.
func (r *reading) step() api.Errno {
	top := &r.stack[len(r.stack)-1]
	ends := map[uint8]string{api.Array: "]", api.Object: "}"}[top.Kind]
	switch {
	case (r.need == aValueOrEnd || r.need == aNameOrEnd || r.need == aCommaOrEnd) && strings.HasPrefix(r.rest, ends):
		r.rest = r.rest[1:]
		done := *top
		r.stack = r.stack[:len(r.stack)-1]
		r.put(done)
		return api.OK
	case r.need == aCommaOrEnd:
		return r.mark(",", map[uint8]int{api.Array: aValue, api.Object: aName}[top.Kind])
	case r.need == aColon:
		return r.mark(":", aValue)
	case r.need == aName || r.need == aNameOrEnd:
		return r.name(top)
	case len(r.stack) > 64:
		return api.ErrDeep
	case r.begun == 65536:
		return api.ErrTooLarge
	default:
		r.begun++
		return r.value()
	}
}

// put: a value has ended.
func (r *reading) put(j api.Json) {
	top := &r.stack[len(r.stack)-1]
	top.List = append(top.List, j)
	r.need = aCommaOrEnd
}

func (r *reading) mark(text string, then int) api.Errno {
	rest, found := strings.CutPrefix(r.rest, text)
	if !found {
		return api.ErrForm
	}
	r.rest, r.need = rest, then
	return api.OK
}

// token: the one that matches, or none.
func (r *reading) token(form *regexp.Regexp) string {
	text := form.FindString(r.rest)
	r.rest = r.rest[len(text):]
	return text
}

func (r *reading) name(top *api.Json) api.Errno {
	text := r.token(quoted)
	if text == "" {
		return api.ErrForm
	}
	name, ok := content(text)
	if !ok {
		return api.ErrForm
	}
	if slices.Contains(top.Names, name) {
		return api.ErrTwice
	}
	top.Names = append(top.Names, name)
	r.need = aColon
	return api.OK
}

func (r *reading) value() api.Errno {
	if rest, found := strings.CutPrefix(r.rest, "["); found {
		r.rest, r.need, r.stack = rest, aValueOrEnd, append(r.stack, api.Json{Kind: api.Array})
		return api.OK
	}
	if rest, found := strings.CutPrefix(r.rest, "{"); found {
		r.rest, r.need, r.stack = rest, aNameOrEnd, append(r.stack, api.Json{Kind: api.Object})
		return api.OK
	}
	if text := r.token(word); text != "" {
		r.put(map[string]api.Json{"null": null, "true": yes, "false": no}[text])
		return api.OK
	}
	if text := r.token(quoted); text != "" {
		meant, ok := content(text)
		if !ok {
			return api.ErrForm
		}
		r.put(str(meant))
		return api.OK
	}
	own, e := dec.Own(r.token(decimal))
	if e != api.OK {
		return e
	}
	r.put(num(own))
	return api.OK
}

// holds holds Parse against the model, and says whether the text is a JSON text; what is parsed must be checked, printed and parsed again as the terms say.
func holds(t *testing.T, s string) bool {
	t.Helper()
	want, wantE := modelParse(s)
	j, e := json.Parse(s)
	if e != wantE || !alike(j, want) {
		t.Fatalf("Parse(%s): %s, %v, not %s, %v", short(s), short(textOf(j)), e, short(textOf(want)), wantE)
	}
	// The library's grammar is the same, but for what is no UTF-8, halves, names and limits.
	valid, special := library.Valid([]byte(s)), strings.Contains(s, `\u`) || !utf8.ValidString(s)
	if e == api.OK && !valid || e == api.ErrForm && valid && !special {
		t.Fatalf("Parse(%s): %v, but the library says %v", short(s), e, valid)
	}
	if e != api.OK {
		return false
	}
	prints(t, j)
	return true
}

// prints: a valid value is printed as its text, and this is parsed as that value.
func prints(t *testing.T, j api.Json) {
	t.Helper()
	want, wantE := textOf(j), api.OK
	if len(want) > 262144 {
		want, wantE = "", api.ErrTooLarge
	}
	if e := json.Check(j); e != api.OK {
		t.Fatalf("Check of %s: %v", short(textOf(j)), e)
	}
	s, e := json.Print(j)
	if s != want || e != wantE {
		t.Fatalf("Print of %s: %s, %v", short(textOf(j)), short(s), e)
	}
	if e != api.OK {
		return
	}
	if back, e := json.Parse(s); e != api.OK || !alike(back, j) || !json.Same(back, j) {
		t.Fatalf("Parse of %s, which was printed: %s, %v", short(s), short(textOf(back)), e)
	}
}

// source makes the same numbers in every run.
func source() *rand.Rand { return rand.New(rand.NewPCG(5, 2026)) }

// pick: one of some texts.
func pick(r *rand.Rand, l ...string) string { return l[r.IntN(len(l))] }

// someString: a few characters of all lengths, of those that are written in several ways, of those that the texts of other values consist of.
func someString(r *rand.Rand) string {
	s := ""
	for range r.IntN(6) {
		s += pick(r, "a", "b", "0", "\x00", "\x08", "\x09", "\x0a", "\x0b", "\x0c", "\x0d", "\x1f", " ", "\"", "\\", "/", "u", "\\u0041", "\x7f", "\u00e9", "\u20ac", "\u2028", "\ufffd", "\ufeff", "\U0001d11e", "\U0010ffff", "{", "}", "[", "]", ",", ":", "null")
	}
	return s
}

// someValue: a valid value, of some depth.
func someValue(r *rand.Rand, depth int) api.Json {
	kind := r.IntN(9)
	if depth == 0 {
		kind = r.IntN(5)
	}
	switch kind {
	case 0:
		return []api.Json{null, yes, no}[r.IntN(3)]
	case 1, 2:
		own, _ := dec.Own(strconv.Itoa(r.IntN(20001)-10000) + pick(r, "", "e7", "e-3", "e9000", "e-9000"))
		return num(own)
	case 3, 4:
		return str(someString(r))
	}
	j := api.Json{Kind: []uint8{api.Array, api.Object}[kind%2]}
	for range r.IntN(5) {
		name := someString(r)
		if slices.Contains(j.Names, name) {
			continue
		}
		if j.Kind == api.Object {
			j.Names = append(j.Names, name)
		}
		j.List = append(j.List, someValue(r, depth-1))
	}
	return j
}

// someBlanks: mostly none.
func someBlanks(r *rand.Rand) string {
	s := ""
	for r.IntN(3) == 0 {
		s += pick(r, " ", "\t", "\n", "\r", "\r\n  ")
	}
	return s
}

// someText: one of the JSON texts of a value.
func someText(r *rand.Rand, j api.Json) string {
	text := ""
	switch j.Kind {
	case api.Number:
		text = respelled(r, j.Text)
	case api.String:
		text = requoted(r, j.Text)
	case api.Array, api.Object:
		for i, part := range j.List {
			if i > 0 {
				text += ","
			}
			if j.Kind == api.Object {
				text += someBlanks(r) + requoted(r, j.Names[i]) + someBlanks(r) + ":"
			}
			text += someText(r, part)
		}
		if text == "" {
			text = someBlanks(r)
		}
		text = map[uint8]string{api.Array: "[", api.Object: "{"}[j.Kind] + text + map[uint8]string{api.Array: "]", api.Object: "}"}[j.Kind]
	default:
		text = textOf(j)
	}
	return someBlanks(r) + text + someBlanks(r)
}

// respelled: another text of a canonical decimal's value.
func respelled(r *rand.Rand, own string) string {
	digits, power, _ := strings.Cut(own, "e")
	n, _ := strconv.Atoi(power)
	switch r.IntN(4) {
	case 0:
		return own
	case 1:
		return digits + ".00" + pick(r, "e", "E") + strconv.Itoa(n)
	case 2:
		if digits == "0" {
			return "-0"
		}
		return digits + "000e" + strconv.Itoa(n-3)
	default:
		sign := "+"
		if n < 0 {
			sign, n = "-", -n
		}
		return digits + pick(r, "e", "E") + sign + "00" + strconv.Itoa(n)
	}
}

// requoted: a String, each character in one of the ways that there are for it.
func requoted(r *rand.Rand, s string) string {
	text := ""
	for _, point := range s {
		own := quote(string(point))
		ways := []string{own[1 : len(own)-1], ""}
		for _, unit := range utf16.Encode([]rune{point}) {
			digits := strconv.FormatUint(uint64(unit)+0x10000, 16)[1:]
			ways[1] += `\u` + pick(r, digits, strings.ToUpper(digits))
		}
		if point == '/' {
			ways = append(ways, `\/`)
		}
		text += pick(r, ways...)
	}
	return `"` + text + `"`
}
