package json_test

import (
	"slices"
	"testing"

	"rostrum/api"
	"rostrum/json"
)

// many: a value, so many times.
func many(times int, j api.Json) []api.Json { return slices.Repeat([]api.Json{j}, times) }

// P5.1: a text of MaxJSON bytes is parsed, one of more is refused, whatever it is.
func TestMaxJSONParsed(t *testing.T) {
	const most = api.MaxJSON
	parses(t, "1"+rep(" ", most-1), num("1"))
	parses(t, rep("\t", most-1)+"1", num("1"))
	parses(t, `"`+rep("x", most-2)+`"`, str(rep("x", most-2)))
	parses(t, `"`+rep(`\n`, most/2-1)+`"`, str(rep("\n", most/2-1)))
	parses(t, "0."+rep("0", most-2), num("0"))
	fails(t, rep("9", most), api.ErrTooLarge)
	fails(t, rep(" ", most), api.ErrForm)
	fails(t, rep("x", most), api.ErrForm)
	fails(t, rep("[", most), api.ErrDeep)
	fails(t, `"`+rep("x", most-1), api.ErrForm)
	for _, s := range []string{"1" + rep(" ", most), rep(" ", most) + "1", `"` + rep("x", most-1) + `"`, rep(" ", most+1), rep("x", most+1), rep("[", most+1), rep("\xff", most+1), `{"a":1,"a":2}` + rep(" ", most), rep("x", 5*most)} {
		fails(t, s, api.ErrTooLarge)
	}
}

// P5.1: a value of which the text has MaxJSON bytes is printed, one of which it has more is refused.
func TestMaxJSONPrinted(t *testing.T) {
	const most = api.MaxJSON
	fill := func(size int) string { return rep("x", size) }
	// Each one with so many bytes to fill: the last piece of the text that is written is another one each time.
	for i, value := range []func(n int) (api.Json, int){
		func(n int) (api.Json, int) { return str(fill(n)), 2 },
		func(n int) (api.Json, int) { return str(fill(n) + "\n"), 4 },
		func(n int) (api.Json, int) { return str(fill(n) + "\x01"), 8 },
		func(n int) (api.Json, int) { return str("\"\x1f" + fill(n)), 10 },
		func(n int) (api.Json, int) { return arr(str(fill(n))), 4 },
		func(n int) (api.Json, int) { return arr(str(fill(n)), num("-15e-1")), 11 },
		func(n int) (api.Json, int) { return arr(str(fill(n)), null), 9 },
		func(n int) (api.Json, int) { return arr(str(fill(n)), yes, no), 15 },
		func(n int) (api.Json, int) { return arr(str(fill(n)), arr(), obj("")), 10 },
		func(n int) (api.Json, int) { return pair(fill(n), null), 9 },
		func(n int) (api.Json, int) { return pair("\\", str(fill(n))), 9 },
		func(n int) (api.Json, int) { return obj("a b", str(fill(n)), str("c")), 16 },
		func(n int) (api.Json, int) { return str(fill(n%2) + rep("\t", n/2)), 2 },
		func(n int) (api.Json, int) { return str(fill(n%6) + rep("\x00", n/6)), 2 },
	} {
		_, more := value(0)
		for _, size := range []int{most - 1, most, most + 1, most + 2, most + 9, most + 100000} {
			j, _ := value(size - more)
			if got := len(textOf(j)); got != size {
				t.Fatalf("value %d has a text of %d bytes, not of %d", i, got, size)
			}
			prints(t, j)
		}
	}
}

// P5.1: a value within MaxNest others is refused where it must begin, before anything else that may be wrong there.
func TestMaxNestParsed(t *testing.T) {
	const most = api.MaxNest
	opens, shuts := rep("[", most), rep("]", most)
	parses(t, opens+shuts, nested(most-1, arr()))
	parses(t, opens+" \t\n\r"+shuts, nested(most-1, arr()))
	parses(t, opens[1:]+"1"+shuts[1:], nested(most-1, num("1")))
	parses(t, opens[1:]+"{ }"+shuts[1:], nested(most-1, obj("")))
	objects := rep(`{"a":`, most-1)
	for _, s := range []string{objects + "1", objects + "{}", objects + "[]", objects + "[ ]"} {
		if !holds(t, s+rep("}", most-1)) {
			t.Errorf("%s is refused", short(s))
		}
	}
	for _, end := range []string{"", " ", "1", "1" + shuts, `""`, "{}", "[]", "[", "x", "01", "1e99999", ",", ":", "}", `"\ud834"`, "\x00", "\xff"} {
		fails(t, opens+end, api.ErrDeep)
		fails(t, opens+" \t\n\r"+end, api.ErrDeep)
		fails(t, "[[],[1],"+opens[1:]+end, api.ErrDeep)
		fails(t, `{"a":`+opens[1:]+end, api.ErrDeep)
		fails(t, objects+"["+end, api.ErrDeep)
		fails(t, objects+`{"a":`+end, api.ErrDeep)
		fails(t, objects+`{"a": `+end, api.ErrDeep)
	}
	// Where a name or a colon must be, no value begins.
	for _, end := range []string{"{", "{x", `{"a"`, `{"a"x`, `{"a",`, "{1", "{,", "{[", `{"\ud834"`, "{]"} {
		fails(t, objects+end, api.ErrForm)
	}
	fails(t, opens+shuts+"x", api.ErrForm)
	fails(t, opens+shuts[1:], api.ErrForm)
	fails(t, "x"+opens+"1", api.ErrForm)
	// What counts is what is open there, not what was open before.
	parses(t, "["+rep("[],", 999)+"{}]", arr(append(many(999, arr()), obj(""))...))
	parses(t, "["+opens[1:]+shuts[1:]+","+opens[1:]+shuts[1:]+"]", arr(many(2, nested(most-2, arr()))...))
	fails(t, "["+opens[1:]+shuts[1:]+","+opens, api.ErrDeep)
}

// P5.1: MaxItems values are parsed; where one more must begin, it is refused, before what may be wrong with it, but not before it is too deep.
func TestMaxItemsParsed(t *testing.T) {
	const most = api.MaxItems
	for _, s := range []string{"0", "{}"} {
		open := "[" + rep(s+",", most-2)
		j, e := json.Parse(open + s + "]")
		if e != api.OK || len(j.List) != most-1 {
			t.Fatalf("%d times %s: %d, %v", most-1, s, len(j.List), e)
		}
		for _, end := range []string{s + "]", "", " ", "]", "x", "1e99999", ","} {
			fails(t, open+s+","+end, api.ErrTooLarge)
		}
		for _, end := range []string{"x", "", s, s + "]x"} {
			fails(t, open+end, api.ErrForm)
		}
	}
	// An Object counts, and its values, but not its names.
	open := "[" + rep(`{"":0},`, (most-2)/2)
	for end, want := range map[string]api.Errno{"0]": api.OK, "{}]": api.OK, "[]]": api.OK, `{"a":0`: api.ErrTooLarge, `{"a":`: api.ErrTooLarge, "[0": api.ErrTooLarge, "[": api.ErrTooLarge, "0,": api.ErrTooLarge, `{"a"`: api.ErrForm, "{": api.ErrForm, "{0": api.ErrForm} {
		if _, e := json.Parse(open + end); e != want {
			t.Errorf("Parse of %d values and %s: %v, not %v", most-1, end, e, want)
		}
	}
	// MaxItems values began, and MaxNest are open.
	open = rep("[", api.MaxNest-1) + rep("0,", most-api.MaxNest) + "["
	for _, end := range []string{"", "0", "x", "1e99999", "{}", ","} {
		fails(t, open+end, api.ErrDeep)
		fails(t, open+"],"+end, api.ErrTooLarge)
	}
	if _, e := json.Parse(open + rep("]", api.MaxNest)); e != api.OK {
		t.Errorf("MaxItems values, MaxNest deep: %v", e)
	}
}

// P5.1: values of MaxNest and of MaxItems are checked and printed, those of one more refused, whatever else is wrong with them.
func TestLimitsOfValues(t *testing.T) {
	refused := func(j api.Json, want api.Errno) {
		t.Helper()
		if e := json.Check(j); e != want {
			t.Errorf("Check: %v, not %v", e, want)
		}
		if s, e := json.Print(j); s != "" || e != want {
			t.Errorf("Print: %s, %v, not %v", short(s), e, want)
		}
	}
	const nest, items = api.MaxNest, api.MaxItems
	for _, j := range []api.Json{null, yes, no, num("1"), str("x"), arr(), obj("")} {
		prints(t, nested(nest-1, j))
		refused(nested(nest, j), api.ErrDeep)
		refused(nested(nest-2, obj("a b", j, arr(j))), api.ErrDeep)
		refused(obj("a b", null, nested(nest-1, j)), api.ErrDeep)
		prints(t, obj("a b", null, nested(nest-2, j)))
		refused(nested(5*nest, j), api.ErrDeep)
	}
	zeros := many(items, num("0"))
	prints(t, arr(zeros[1:]...))
	refused(arr(zeros...), api.ErrTooLarge)
	prints(t, arr(arr(zeros[:999]...), obj("a", arr(zeros[:items-1003]...))))
	refused(arr(arr(zeros[:999]...), obj("a", arr(zeros[:items-1002]...))), api.ErrTooLarge)
	prints(t, nested(nest-2, arr(zeros[nest-1:]...)))
	refused(nested(nest-2, arr(zeros[nest-2:]...)), api.ErrTooLarge)
	refused(nested(nest-1, arr(zeros...)), api.ErrDeep)
	refused(arr(arr(zeros...), nested(nest-1, null)), api.ErrDeep)
	refused(arr(many(40, arr(zeros...))...), api.ErrTooLarge)
	// Valid, but its text is too long.
	if s, e := json.Print(arr(many(items-1, str("xx"))...)); s != "" || e != api.ErrTooLarge {
		t.Errorf("Print of long texts: %s, %v", short(s), e)
	}
	if e := json.Check(arr(many(items-1, str("xx"))...)); e != api.OK {
		t.Errorf("Check of long texts: %v", e)
	}
}

// P5.1, R1: what is in List counts, whatever the Kind, valid or not.
func TestLimitsOfAnyKind(t *testing.T) {
	for kind := range uint8(10) {
		j := api.Json{Kind: kind, List: []api.Json{nested(api.MaxNest-1, null)}}
		if e := json.Check(j); e != api.ErrDeep {
			t.Errorf("Check of Kind %d, too deep: %v", kind, e)
		}
		j.List = many(api.MaxItems, null)
		if e := json.Check(j); e != api.ErrTooLarge {
			t.Errorf("Check of Kind %d, too large: %v", kind, e)
		}
		deep := api.Json{Kind: kind}
		for range api.MaxNest {
			deep = api.Json{Kind: kind, Text: "x", Names: []string{"\xff"}, List: []api.Json{deep}}
		}
		if e := json.Check(deep); e != api.ErrDeep {
			t.Errorf("Check of Kind %d, too deep in its own: %v", kind, e)
		}
		if e := json.Check(deep.List[0]); e != api.ErrForm {
			t.Errorf("Check of Kind %d, not valid: %v", kind, e)
		}
	}
}

// R1: a value whose lists contain themselves, and one whose lists share so much that it has more values than could be counted.
func TestEndlessValues(t *testing.T) {
	list := make([]api.Json, 2)
	endless := api.Json{Kind: api.Object, Names: []string{"a", "b"}, List: list}
	list[0], list[1] = null, endless
	other := make([]api.Json, 2)
	other[0], other[1] = null, api.Json{Kind: api.Object, Names: []string{"a", "b"}, List: other}
	doubled := null
	for range 100 {
		doubled = arr(doubled, doubled)
	}
	for _, j := range []api.Json{endless, {Kind: api.Object, Names: []string{"a", "b"}, List: other}, doubled, arr(endless), obj("a b", endless, endless)} {
		if e := json.Check(j); e != api.ErrDeep {
			t.Errorf("Check: %v", e)
		}
		if s, e := json.Print(j); s != "" || e != api.ErrDeep {
			t.Errorf("Print: %s, %v", short(s), e)
		}
	}
	for _, j := range []api.Json{endless, {Kind: api.Object, Names: []string{"a", "b"}, List: other}, arr(endless), obj("a b", endless, endless)} {
		json.Get(j, "b")
		json.Get(j, "c")
		json.Same(j, endless)
		json.Same(endless, j)
		if json.Same(j, null) || json.Same(null, j) {
			t.Error("an endless value is null")
		}
	}
	if j, ok := json.Get(endless, "a"); !ok || !alike(j, null) {
		t.Errorf("Get: %v, %v", j, ok)
	}
}

// P5.2: values as deep as any that something is promised of.
func TestDeepValues(t *testing.T) {
	const deepest = 1 << 16
	deep, other := nested(deepest-1, null), nested(deepest-1, yes)
	if !json.Same(deep, nested(deepest-1, null)) || json.Same(deep, other) || json.Same(other, deep) || json.Same(deep, deep.List[0]) {
		t.Error("Same of deep values")
	}
	if e := json.Check(deep); e != api.ErrDeep {
		t.Errorf("Check of a deep value: %v", e)
	}
	got, ok := json.Get(obj("a b", null, deep), "b")
	if !ok || !alike(got, deep) {
		t.Errorf("Get of a deep value: %v", ok)
	}
}
