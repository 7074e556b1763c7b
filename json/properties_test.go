package json_test

import (
	"regexp"
	"slices"
	"strings"
	"testing"
	"unsafe"

	"rostrum/api"
	"rostrum/json"
)

// P5.3: what is printed is parsed as it was; what is parsed, from any of its texts, can be printed, and is parsed as the same again.
func TestBack(t *testing.T) {
	r := source()
	for range 2000 {
		j := someValue(r, 4)
		prints(t, j)
		s := someText(r, j)
		parses(t, s, j)
		holds(t, s)
	}
}

// P5.3: the text of what was parsed may be longer than the text that it was parsed from; then it is not printed.
func TestBackOfLongTexts(t *testing.T) {
	for s, want := range map[string]api.Errno{"0.1": api.ErrTooLarge, "-10": api.ErrTooLarge, "100": api.OK, `"a"`: api.OK} {
		text := "[" + rep(s+",", api.MaxItems-2) + s + "]"
		j, e := json.Parse(text)
		if e != api.OK || len(j.List) != api.MaxItems-1 {
			t.Errorf("Parse(%s): %v", short(text), e)
		}
		if _, e := json.Print(j); e != want {
			t.Errorf("Print of %s: %v, not %v", short(text), e, want)
		}
		prints(t, j)
	}
}

// tokens: of a text without blanks; the two halves of a name, or of a number, are none.
var tokens = regexp.MustCompile(`"(?:[^"\\]|\\.)*"|[0-9+.eE-]+|[a-z]+|.`)

// P5.4: each kind of blank, and all of them, before and after each token, change nothing: neither the value nor the error.
func TestBlanks(t *testing.T) {
	texts := []string{`{"a":[1,null,{}],"b":"x y","":{"c":[[],true]},"\u00e9":-15e-1}`, "[]", "{}", "1", "null", `"\n"`, "[[[]],[]]", `[1,2,"3"]`}
	wrong := []string{"[1,]", `{"a":1,"a":2}`, `{"a":1,}`, "[,1]", `{"a"1}`, "[1e99999]", "[01]", `["\ud834"]`, "]", "[}", "[1", `{"a":`, "", "[]]", "1[", `[,`, `{:`, rep("[", 65), rep("[", 64)}
	for _, s := range slices.Concat(texts, wrong) {
		want, wantE := json.Parse(s)
		if (wantE == api.OK) != slices.Contains(texts, s) {
			t.Errorf("Parse(%s): %v", short(s), wantE)
		}
		l := tokens.FindAllString(s, -1)
		same := func(text string) {
			t.Helper()
			if j, e := json.Parse(text); e != wantE || !alike(j, want) {
				t.Errorf("Parse(%s): %s, %v, not as of %s", short(text), short(textOf(j)), e, short(s))
			}
		}
		for _, blanks := range []string{" ", "\t", "\n", "\r", "    ", " \t\n\r\r\n\t ", "\r\n\r\n"} {
			for i := range len(l) + 1 {
				same(strings.Join(l[:i], "") + blanks + strings.Join(l[i:], ""))
			}
			same(blanks + strings.Join(l, blanks) + blanks)
		}
	}
	// What looks like a blank is none, and within a token there is none.
	for _, x := range []string{"\x00", "\x08", "\x0b", "\x0c", "\x1c", "\x7f", "\x85", "\xa0", "\u0085", "\u00a0", "\u1680", "\u2003", "\u2028", "\u3000", "\ufeff", "\u200b"} {
		for _, s := range []string{x + "1", "1" + x, "[" + x + "1]", "[1" + x + "]", "[1," + x + "2]", "[" + x + "]", "{" + x + `"a":1}`, `{"a"` + x + ":1}", `{"a":` + x + "1}", `{"a":1` + x + "}", "{" + x + "}"} {
			fails(t, s, api.ErrForm)
		}
	}
	for _, s := range []string{"nu ll", "t\nrue", "1 2", "1 .5", "1e 5", "- 1", "1\t0", `"\ n"`, `"\u 0041"`, `"\u00 41"`, `"\ud834 \udd1e"`, "\"\t\"", "\"\n\""} {
		fails(t, s, api.ErrForm)
	}
}

// smallValues: all valid values of a few leaves, alone, in pairs, and one deeper.
func smallValues() []api.Json {
	leaves := []api.Json{null, yes, no, num("0"), num("1"), num("-1"), num("1e1"), num("11"), num("1e-1")}
	for _, s := range []string{"", "0", "a", "null", ",", "\"", "\\", "\n", "n", "\\n", "[]", "\",\"", "\x00", "\\u0000", "\u00e9", "\U0001d11e"} {
		leaves = append(leaves, str(s))
	}
	lists := func(l []api.Json) []api.Json {
		made := []api.Json{arr(), obj("")}
		for _, a := range l {
			made = append(made, arr(a))
			for _, name := range []string{"", "a", ",", "\":1,\""} {
				made = append(made, api.Json{Kind: api.Object, Names: []string{name}, List: []api.Json{a}})
			}
			for _, b := range l {
				made = append(made, arr(a, b), obj("a b", a, b), obj("b a", a, b))
			}
		}
		return made
	}
	some := append(slices.Clone(leaves[:5]), lists(leaves[:2])...)
	return slices.Concat(leaves, lists(leaves), lists(some))
}

// P5.5: two valid values have the same text exactly if they are the same.
func TestUnique(t *testing.T) {
	l := smallValues()
	texts := make([]string, len(l))
	for i, j := range l {
		s, e := json.Print(j)
		if e != api.OK {
			t.Fatalf("Print of %s: %v", textOf(j), e)
		}
		texts[i] = s
	}
	pairs := 0
	for i, a := range l {
		for k, b := range l {
			same := json.Same(a, b)
			if same != (texts[i] == texts[k]) {
				t.Fatalf("%s and %s: the same: %v", texts[i], texts[k], same)
			}
			if same && i != k {
				pairs++
			}
		}
	}
	if len(l) < 2000 || pairs > len(l) {
		t.Errorf("%d values, %d pairs of the same", len(l), pairs)
	}
	r := source()
	known := map[string]api.Json{}
	for range 10000 {
		j := someValue(r, 2)
		s, _ := json.Print(j)
		if other, ok := known[s]; ok && !json.Same(j, other) {
			t.Fatalf("%s is the text of two values", s)
		}
		known[s] = j
	}
}

// junk: the value's lists get spare capacity, in which something stands.
func junk(j api.Json) api.Json {
	list := []api.Json{}
	for _, part := range j.List {
		list = append(list, junk(part))
	}
	j.Names = append(slices.Clone(j.Names), "junk", "\xff")[:len(j.Names)]
	j.List = append(list, str("junk"), num("x"))[:len(j.List)]
	return j
}

// spoil overwrites all lists of a value, and their spare capacity.
func spoil(j api.Json) {
	for i := range j.List {
		spoil(j.List[i])
	}
	for i := range j.Names[:cap(j.Names)] {
		j.Names[:cap(j.Names)][i] = "spoilt"
	}
	for i := range j.List[:cap(j.List)] {
		j.List[:cap(j.List)][i] = str("spoilt")
	}
}

// R3: what stands in spare capacity is not read, and no argument is changed.
func TestArgumentsStay(t *testing.T) {
	r := source()
	for range 500 {
		plain := someValue(r, 4)
		j, before := junk(plain), junk(plain)
		want, _ := json.Print(plain)
		if s, e := json.Print(j); s != want || e != api.OK || json.Check(j) != api.OK || !json.Same(j, plain) || !json.Same(plain, j) {
			t.Fatalf("Print with spare capacity: %s, %v, not %s", s, e, want)
		}
		if got, ok := json.Get(j, "junk"); ok {
			t.Fatalf("Get of what is in spare capacity: %v", got)
		}
		for _, name := range j.Names {
			got, _ := json.Get(j, name)
			spoil(got)
		}
		whole := func(j api.Json) api.Json {
			return api.Json{Names: j.Names[:cap(j.Names)][:len(j.Names)+2], List: j.List[:cap(j.List)][:len(j.List)+2]}
		}
		if !alike(j, before) || !alike(whole(j), whole(before)) {
			t.Fatalf("%s has changed", want)
		}
	}
}

// R3: no two lists of a result share memory, nor do two results.
func TestResultsApart(t *testing.T) {
	const s = `{"a":[1,2,3],"b":{"c":[],"d":[[4],{"e":5}]},"f":[]}`
	want, _ := modelParse(s)
	first, _ := json.Parse(s)
	second, _ := json.Parse(s)
	within, _ := json.Get(second, "b")
	spoil(first)
	if !alike(second, want) {
		t.Error("two results of Parse share memory")
	}
	for i := range second.List {
		again, _ := json.Parse(s)
		spoil(again.List[i])
		again.List[i] = want.List[i]
		if !alike(again, want) {
			t.Errorf("the lists of value %d are shared", i)
		}
	}
	spoil(second)
	if !alike(within, want.List[1]) {
		t.Error("a result of Get shares memory with its argument")
	}
	shared := []api.Json{null}
	got, _ := json.Get(obj("a", arr(arr(shared...), arr(shared...), api.Json{Kind: api.Array, List: shared})), "a")
	spoil(got.List[0])
	if got.List[1].List[0].Kind != api.Null || got.List[2].List[0].Kind != api.Null || shared[0].Kind != api.Null {
		t.Error("two lists of a result of Get share memory")
	}
}

// within says whether a text lies in the memory of another one.
func within(s, whole string) bool {
	from := uintptr(unsafe.Pointer(unsafe.StringData(whole)))
	at := uintptr(unsafe.Pointer(unsafe.StringData(s)))
	return s != "" && at >= from && at < from+uintptr(len(whole))
}

// R3: no result is a part of its argument, which it would keep in memory.
func TestResultsAreNew(t *testing.T) {
	for _, s := range []string{`"abc"`, `"a\nc"`, "123", "-1e5", `{"name":"value"}`, "[[true]]"} {
		j, _ := json.Parse(s)
		if within(j.Text, s) || len(j.Names) > 0 && (within(j.Names[0], s) || within(j.List[0].Text, s)) {
			t.Errorf("Parse(%s) is a part of it", s)
		}
		got, _ := json.Get(obj("x", j), "x")
		if within(got.Text, j.Text) || len(j.Names) > 0 && (within(got.Names[0], j.Names[0]) || within(got.List[0].Text, j.List[0].Text)) {
			t.Errorf("Get of %s is a part of it", s)
		}
	}
	for _, s := range []string{"123", "-15e-1", "7"} {
		if text, _ := json.Print(num(s)); within(text, s) {
			t.Errorf("Print of %s is a part of it", s)
		}
	}
}
