package json_test

import (
	"slices"
	"strconv"
	"testing"

	"rostrum/api"
	"rostrum/json"
)

// refused checks by hand that Check and Print return an error, and nothing beside it.
func refused(t *testing.T, j api.Json, want api.Errno) {
	t.Helper()
	if e := json.Check(j); e != want {
		t.Errorf("Check of %+.200v: %v, not %v", j, e, want)
	}
	if s, e := json.Print(j); s != "" || e != want {
		t.Errorf("Print of %+.200v: %s, %v, not %v", j, short(s), e, want)
	}
}

// with is a value with fields besides.
func with(j api.Json, text string, names []string, list []api.Json) api.Json {
	return api.Json{Kind: j.Kind, Text: j.Text + text, Names: slices.Concat(j.Names, names), List: slices.Concat(j.List, list)}
}

// valids are values of every Kind.
func valids() []api.Json {
	l := []api.Json{null, yes, no, arr(), obj("")}
	for _, s := range []string{"0", "1", "-1", "1e1", "-15e-1", "1e9999", "1e-9999", rep("7", 200) + "e9999"} {
		l = append(l, num(s))
	}
	for _, s := range []string{"", "a", "\x00\x1f\x7f", "\"\\/", "\u00e9\u20ac\U0001d11e\ufffd", "null", rep("x", 70000)} {
		l = append(l, str(s), pair(s, num("1")))
	}
	l = append(l, arr(l...), obj("a b A", l[0], l[5], arr(l[3])), nested(10, null))
	return append(l, api.Json{Kind: api.Object, Names: []string{"", " ", "\x00"}, List: []api.Json{obj("a", null), obj("a", null), arr(obj("a", null), obj("a", null))}})
}

// P5.1: Check returns OK for what is valid, and Print its text.
func TestValidValues(t *testing.T) {
	for _, j := range valids() {
		prints(t, j)
	}
}

// invalids are values that are not valid for one reason each, except that of a name that occurs twice.
func invalids() []api.Json {
	var l []api.Json
	for _, kind := range []uint8{0, 8, 9, 127, 128, 255} {
		l = append(l, api.Json{Kind: kind}, api.Json{Kind: kind, Text: "1"}, api.Json{Kind: kind, Names: []string{"a"}, List: []api.Json{null}})
	}
	for _, j := range []api.Json{null, yes, no, num("1"), str("a")} {
		l = append(l, with(j, "", []string{""}, nil), with(j, "", nil, []api.Json{null}), with(j, "", []string{"a"}, []api.Json{null}))
	}
	for _, j := range []api.Json{null, yes, no, arr(), arr(null), obj(""), obj("a", null)} {
		l = append(l, with(j, "x", nil, nil), with(j, "\xff", nil, nil), with(j, "", []string{"b"}, nil))
	}
	l = append(l, with(obj("a"), "", nil, nil), with(obj(""), "", nil, []api.Json{null}), with(obj("a b", null), "", nil, nil), with(obj("a", null), "", nil, []api.Json{null}))
	for _, s := range []string{"", "10", "-10", "100", "1.0", "0.1", "1.5", "-0", "00", "01", "+1", "1E2", "1e02", "1e+2", "1e0", "0e1", "10e1", " 1", "1 ", "1\n", "1.", ".5", "-", "e", "1e", "1e10000", "1e-10000", rep("7", 201), "x", "1x", "NaN", "null", "\"1\"", "\xff", "1\x00", "\u0661"} {
		l = append(l, num(s))
	}
	for _, s := range []string{"\x80", "\xff", "a\xc3", "\xe2\x82", "\xed\xa0\x80", "\xed\xa0\xb4\xed\xb4\x9e", "\xf0\x9d\x84", "\xc0\x80", "\xf4\x90\x80\x80"} {
		l = append(l, str(s), pair(s, null), api.Json{Kind: api.Object, Names: []string{"a", "b" + s}, List: []api.Json{null, null}})
	}
	return l
}

// P5.1: each reason for which a value is invalid, at the top and within others.
func TestInvalidValues(t *testing.T) {
	for _, j := range invalids() {
		refused(t, j, api.ErrForm)
		refused(t, arr(j), api.ErrForm)
		refused(t, arr(null, arr(), j, yes), api.ErrForm)
		refused(t, obj("a", j), api.ErrForm)
		refused(t, obj("a b c", null, j, null), api.ErrForm)
		refused(t, nested(api.MaxNest-2, j), api.ErrForm)
		// A name that occurs twice is told after everything else, wherever it stands.
		refused(t, obj("a a", j, null), api.ErrForm)
		refused(t, arr(obj("a a", null, null), j), api.ErrForm)
		refused(t, arr(j, obj("a a", null, null)), api.ErrForm)
		refused(t, obj("a a", null, arr(arr(j))), api.ErrForm)
	}
}

// P5.1: a name that occurs twice in one Object, which may be anywhere.
func TestTwiceInValues(t *testing.T) {
	twice := []api.Json{obj("a a", null, null), obj("a a", null, yes), obj("a b a", null, null, null), obj("b a a c", null, null, null, null), obj("a a a", null, null, null), obj("\u00e9 \u00e9", null, null), {Kind: api.Object, Names: []string{"", ""}, List: []api.Json{null, null}}, {Kind: api.Object, Names: []string{"\x00\"", "\x00\""}, List: []api.Json{null, null}}}
	var names []string
	for i := range 40000 {
		names = append(names, strconv.Itoa(i))
	}
	list := many(40001, null)
	prints(t, api.Json{Kind: api.Object, Names: names[:20000], List: list[:20000]})
	for _, name := range []string{"0", "20000", "39999"} {
		twice = append(twice, api.Json{Kind: api.Object, Names: slices.Concat(names, []string{name}), List: list})
	}
	for _, j := range twice {
		refused(t, j, api.ErrTwice)
		refused(t, arr(null, j), api.ErrTwice)
		refused(t, obj("a b", arr(arr(j)), null), api.ErrTwice)
		refused(t, nested(api.MaxNest-2, j), api.ErrTwice)
	}
	// Alike, or in different Objects, they are no names that occur twice.
	prints(t, obj("a A a' \u00e9 e\u0301", null, null, null, null, null))
	prints(t, obj("a b", obj("a b", obj("a", null), null), obj("a b", null, null)))
}

// P5.1: of several reasons the first one in the order of the errors counts, wherever each of them stands.
func TestOrderOfReasons(t *testing.T) {
	reasons := []api.Errno{api.ErrDeep, api.ErrTooLarge, api.ErrForm, api.ErrTwice}
	parts := []api.Json{nested(api.MaxNest-1, null), arr(many(api.MaxItems-1, null)...), num("10"), obj("a a", null, null)}
	var grow func(l []api.Json, used []bool)
	grow = func(l []api.Json, used []bool) {
		if at := slices.Index(used, true); at >= 0 {
			refused(t, arr(l...), reasons[at])
			refused(t, arr(null, arr(l...)), reasons[at])
		}
		for i, part := range parts {
			if used[i] {
				continue
			}
			more := slices.Clone(used)
			more[i] = true
			grow(slices.Concat(l, []api.Json{part}), more)
		}
	}
	grow(nil, make([]bool, len(parts)))
}

// P5.1: Print by hand: each Kind, and each way that a character is written.
func TestPrint(t *testing.T) {
	for want, j := range map[string]api.Json{
		"null": null, "true": yes, "false": no, "-15e-1": num("-15e-1"), "[]": arr(), "{}": obj(""), "[[],{}]": arr(arr(), obj("")),
		"[null,true,1]": arr(null, yes, num("1")), `{"a":[1,"b"],"":{}}`: {Kind: api.Object, Names: []string{"a", ""}, List: []api.Json{arr(num("1"), str("b")), obj("")}},
		`{"b":1,"a":2,"\n\"":3}`: {Kind: api.Object, Names: []string{"b", "a", "\n\""}, List: []api.Json{num("1"), num("2"), num("3")}},
		`"\"\\\b\f\n\r\t/"`:      str("\"\\\x08\x0c\x0a\x0d\x09/"),
		`"\\u0041\\n'"`:          str(`\u0041\n'`),
		`"\u0000\u0001\u0002\u0003\u0004\u0005\u0006\u0007\b\t\n\u000b\f\r\u000e\u000f"`:                              str("\x00\x01\x02\x03\x04\x05\x06\x07\x08\x09\x0a\x0b\x0c\x0d\x0e\x0f"),
		`"\u0010\u0011\u0012\u0013\u0014\u0015\u0016\u0017\u0018\u0019\u001a\u001b\u001c\u001d\u001e\u001f !#$%&'()"`: str("\x10\x11\x12\x13\x14\x15\x16\x17\x18\x19\x1a\x1b\x1c\x1d\x1e\x1f !#$%&'()"),
		"\"<>&\x7f\u0080\u00e9\u2028\u2029\u20ac\ufeff\ufffd\U0001d11e\"":                                             str("<>&\x7f\u0080\u00e9\u2028\u2029\u20ac\ufeff\ufffd\U0001d11e"),
	} {
		if s, e := json.Print(j); s != want || e != api.OK {
			t.Errorf("Print: %s, %v, not %s", s, e, want)
		}
		prints(t, j)
	}
}

// P5.2: Same of values that differ in one thing, valid or not.
func TestSame(t *testing.T) {
	l := slices.Concat([]api.Json{{}, str("b"), arr(null), arr(yes), arr(null, null), arr(null, yes), arr(yes, null), arr(arr(null)), obj("a", null), obj("a", yes), obj("b", null), obj("a b", null, yes), obj("b a", null, yes), obj("b a", yes, null), obj("a a", null, yes), obj("a b", null), obj("a", null, null), obj("a b"), num("10"), num("1.0"), num("1e0"), str("1"), str("true")}, []api.Json{with(null, "x", nil, nil), with(str("a"), "", []string{"b"}, nil), with(str("a"), "", nil, []api.Json{null}), with(arr(null), "", []string{"b"}, nil), {Kind: 9}, {Kind: 9, Text: "1"}, {Kind: 9, Names: []string{""}}, {Kind: 9, List: []api.Json{{}}}, {Kind: 9, List: []api.Json{{Kind: 9}}}, str("\xff"), str("\xfe"), str("\ufffd"), pair("\xff", null), pair("\xfe", null)})
	for _, a := range l {
		for _, b := range l {
			want := alike(a, b)
			if json.Same(a, b) != want || json.Same(arr(null, a), arr(null, b)) != want || json.Same(obj("x", a), obj("x", b)) != want {
				t.Errorf("Same of %+v and %+v: not %v", a, b, want)
			}
		}
	}
	for i, a := range l {
		for k, b := range l {
			if (i == k) != alike(a, b) {
				t.Fatalf("%+v is twice in the list", a)
			}
		}
	}
}

// P5.2: Same of values in all sizes, and of each one with a single thing changed.
func TestSameOfMany(t *testing.T) {
	r := source()
	last := null
	for range 2000 {
		j := someValue(r, 4)
		back, _ := json.Parse(textOf(j))
		if !json.Same(j, back) || json.Same(j, last) != alike(j, last) {
			t.Fatalf("Same of %s", textOf(j))
		}
		last = j
		if len(back.List) == 0 {
			continue
		}
		back.List[len(back.List)-1] = arr(back.List[len(back.List)-1])
		if json.Same(j, back) || json.Same(back, j) {
			t.Fatalf("Same of %s and %s", textOf(j), textOf(back))
		}
	}
}

// R6: an empty list and none.
func TestEmptyLists(t *testing.T) {
	for _, kind := range []uint8{0, api.Null, api.True, api.False, api.Number, api.String, api.Array, api.Object, 9} {
		text := map[uint8]string{api.Number: "1"}[kind]
		none := api.Json{Kind: kind, Text: text}
		empty := api.Json{Kind: kind, Text: text, Names: []string{}, List: []api.Json{}}
		spare := api.Json{Kind: kind, Text: text, Names: []string{"a"}[:0], List: []api.Json{null}[:0]}
		for _, other := range []api.Json{empty, spare} {
			if !json.Same(none, other) || !json.Same(other, none) || !json.Same(arr(other), arr(none)) {
				t.Errorf("Kind %d: an empty list is not as none", kind)
			}
			if json.Check(none) != json.Check(other) {
				t.Errorf("Check of Kind %d: %v, %v", kind, json.Check(none), json.Check(other))
			}
			a, _ := json.Print(arr(none))
			if b, _ := json.Print(arr(other)); a != b {
				t.Errorf("Print of Kind %d: %s, %s", kind, a, b)
			}
			if j, ok := json.Get(obj("a", other), "a"); !ok || !alike(j, none) {
				t.Errorf("Get of Kind %d: %+v, %v", kind, j, ok)
			}
			if j, ok := json.Get(other, "a"); ok || !isZero(j) {
				t.Errorf("Get in Kind %d: %+v, %v", kind, j, ok)
			}
		}
	}
}

// P5.2: Get by hand: of an Object, valid or not, and of what is none.
func TestGet(t *testing.T) {
	one, two := num("1"), arr(str("x"), obj("a", null))
	empty := api.Json{Kind: api.Object, Names: []string{"a", ""}, List: []api.Json{one, two}}
	bad := with(null, "x", []string{"a"}, []api.Json{{}, {Kind: 9}})
	for _, x := range []struct {
		j    api.Json
		name string
		want api.Json
		ok   bool
	}{
		{obj("a", one), "a", one, true}, {obj("a b", one, two), "a", one, true}, {obj("a b", one, two), "b", two, true}, {empty, "", two, true},
		{obj("a", one), "b", null, false}, {obj("a", one), "", null, false}, {obj("a", one), "A", null, false}, {obj("ab", one), "a", null, false}, {obj("a", one), "ab", null, false}, {obj(""), "a", null, false}, {obj(""), "", null, false},
		{obj("b", obj("a", one)), "a", null, false}, {obj("b", one), "1", null, false},
		{obj("a a", one, two), "a", one, true}, {obj("b a a", null, two, one), "a", two, true},
		{obj("a b", one), "a", one, true}, {obj("a b", one), "b", null, false}, {obj("a"), "a", null, false}, {obj("b a a", null), "a", null, false}, {obj("a", one, two), "a", one, true},
		{obj("a", bad), "a", bad, true}, {obj("a", api.Json{}), "a", api.Json{}, true}, {with(obj("a", one), "x", nil, nil), "a", one, true}, {pair("\xff", one), "\xff", one, true}, {pair("\xff", one), "\xfe", null, false}, {pair("\xff", one), "\ufffd", null, false},
		{arr(one), "a", null, false}, {arr(one), "", null, false}, {arr(one), "0", null, false}, {str("a"), "a", null, false}, {null, "", null, false}, {api.Json{}, "", null, false},
		{with(arr(one), "", []string{"a"}, nil), "a", null, false}, {with(null, "", []string{"a"}, []api.Json{one}), "a", null, false}, {api.Json{Kind: 9, Names: []string{"a"}, List: []api.Json{one}}, "a", null, false}, {api.Json{Names: []string{"a"}, List: []api.Json{one}}, "a", null, false},
	} {
		want := x.want
		if !x.ok {
			want = api.Json{}
		}
		if j, ok := json.Get(x.j, x.name); ok != x.ok || !alike(j, want) {
			t.Errorf("Get(%+v, %q): %+v, %v", x.j, x.name, j, ok)
		}
	}
}

// P5.2: Get of every name of what was parsed.
func TestGetOfMany(t *testing.T) {
	r := source()
	for range 2000 {
		j := someValue(r, 3)
		for i, name := range j.Names {
			if got, ok := json.Get(j, name); !ok || !alike(got, j.List[i]) {
				t.Fatalf("Get(%s, %q): %s, %v", textOf(j), name, textOf(got), ok)
			}
		}
		if got, ok := json.Get(j, "no such name"); ok || !isZero(got) {
			t.Fatalf("Get of no name of %s: %+v, %v", textOf(j), got, ok)
		}
	}
}
