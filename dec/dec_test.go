package dec_test

import (
	"math"
	"math/big"
	"slices"
	"strconv"
	"strings"
	"testing"
	"unsafe"

	"rostrum/api"
	"rostrum/dec"
)

// rep is a text, so many times.
func rep(s string, times int) string { return strings.Repeat(s, times) }

// owns checks Own by hand; beside an error its result is empty.
func owns(t *testing.T, s, want string, wantE api.Errno) {
	t.Helper()
	if own, e := dec.Own(s); own != want || e != wantE {
		t.Errorf("Own(%s): %s, %v, not %s, %v", short(s), short(own), e, short(want), wantE)
	}
}

// P4.1, P4.2: the chapter's examples.
func TestExamples(t *testing.T) {
	for s, want := range map[string]string{"-120.50e1": "-1205", "0.00e9": "0", "1E+2": "1e2", "100": "1e2", "0e99999": "0"} {
		owns(t, s, want, api.OK)
	}
	for _, s := range []string{"007", "1.", ".5", "+1", "1e", ""} {
		owns(t, s, "", api.ErrForm)
	}
	owns(t, "1e10000", "", api.ErrTooLarge)
	owns(t, "10e9999", "", api.ErrTooLarge)
	if c, e := dec.Cmp("1e2", "99.9"); c != 1 || e != api.OK {
		t.Errorf("Cmp(1e2, 99.9): %d, %v", c, e)
	}
	for s, want := range map[string]struct {
		n int64
		e api.Errno
	}{"1e2": {100, api.OK}, "1.5": {0, api.ErrArg}, "1e19": {0, api.ErrOver}} {
		if n, e := dec.Int(s); n != want.n || e != want.e {
			t.Errorf("Int(%s): %d, %v", s, n, e)
		}
	}
	if s := dec.Of(-50); s != "-5e1" {
		t.Errorf("Of(-50): %s", s)
	}
}

// P4.1: the only canonical form of 0, whatever its sign, point and exponent.
func TestZeros(t *testing.T) {
	for _, digits := range []string{"0", "0.0", "0.00", "0." + rep("0", 100000)} {
		for _, exponent := range []string{"", "e0", "E0", "e+0", "e-0", "e00", "e9", "e-9", "e9999", "e-9999", "e10000", "e-10000", "E+99999", "e18446744073709551617", "e-" + rep("9", 100000), "e" + rep("9", 100000)} {
			for _, sign := range []string{"", "-"} {
				s := sign + digits + exponent
				owns(t, s, "0", api.OK)
				if n, e := dec.Int(s); n != 0 || e != api.OK {
					t.Errorf("Int(%s): %d, %v", short(s), n, e)
				}
				for b, want := range map[string]int{"0": 0, "-0e5": 0, "1e-9999": -1, "-1e-9999": 1, "1": -1, "-1": 1} {
					if c, e := dec.Cmp(s, b); c != want || e != api.OK {
						t.Errorf("Cmp(%s, %s): %d, %v", short(s), b, c, e)
					}
				}
			}
		}
	}
}

// P4.1: Own by hand: zeros at both ends, points, exponents, and what makes up for them.
func TestOwn(t *testing.T) {
	for s, want := range map[string]string{
		"1": "1", "-1": "-1", "10": "1e1", "-10": "-1e1", "101": "101", "1010": "101e1", "9": "9", "1234567890": "123456789e1",
		"0.5": "5e-1", "0.50": "5e-1", "0.05": "5e-2", "0.0050": "5e-3", "1.0": "1", "1.5": "15e-1", "10.0": "1e1", "10.01": "1001e-2", "100.10": "1001e-1", "-0.1": "-1e-1", "-0.10e1": "-1",
		"1e0": "1", "1e-0": "1", "1e+0": "1", "1e00": "1", "1E1": "1e1", "1e-1": "1e-1", "1E-01": "1e-1", "1e+01": "1e1", "1e0009": "1e9", "1e-0009": "1e-9",
		"10e-1": "1", "100e-1": "1e1", "1.5e1": "15", "0.1e1": "1", "1.5e2": "15e1", "12.5e-1": "125e-2", "0.001e3": "1", "1000e-3": "1", "0.010e5": "1e3", "20.20e-1": "202e-2",
		"123456789012345678901234567890": "12345678901234567890123456789e1", "9223372036854775808": "9223372036854775808", "18446744073709551616.5": "184467440737095516165e-1",
		"0.1e2147483": "", "1.0e-10000": "",
	} {
		e := api.OK
		if want == "" {
			e = api.ErrTooLarge
		}
		owns(t, s, want, e)
	}
}

// P4.1: a canonical form has MaxDigits digits and no more; zeros at their ends are none of them.
func TestMaxDigits(t *testing.T) {
	const most = api.MaxDigits
	for _, sign := range []string{"", "-"} {
		for _, digits := range []string{rep("9", most), rep("1", most), "1" + rep("0", most-2) + "1"} {
			owns(t, sign+digits, sign+digits, api.OK)
			owns(t, sign+digits+"000", sign+digits+"e3", api.OK)
			owns(t, sign+digits+rep("0", 5000), sign+digits+"e5000", api.OK)
			owns(t, sign+digits+".000", sign+digits, api.OK)
			owns(t, sign+digits+"e7", sign+digits+"e7", api.OK)
			owns(t, sign+digits[:100]+"."+digits[100:]+"0", sign+digits+"e-100", api.OK)
			owns(t, sign+"0.00"+digits+"00", sign+digits+"e-202", api.OK)
			owns(t, sign+digits+"0e-1", sign+digits, api.OK)
			for _, more := range []string{"1" + digits, digits + "1", digits + ".1", digits[:1] + "." + digits[1:] + "1", "0.1" + digits, "1" + digits + "00", "1" + digits + "e9", digits + "01e-5"} {
				owns(t, sign+more, "", api.ErrTooLarge)
			}
		}
	}
}

// P4.1: powers from -MaxExp to MaxExp, and just past them; it is the canonical form's power that counts.
func TestMaxExp(t *testing.T) {
	for s, want := range map[string]string{
		"1e9999": "1e9999", "-1e9999": "-1e9999", "1E+9999": "1e9999", "1e09999": "1e9999", "0.1e10000": "1e9999", "12.5e10000": "125e9999", "10e9998": "1e9999", "0.010e10001": "1e9999", "7" + rep("0", 9999): "7e9999", "1" + rep("0", 20000) + "e-10001": "1e9999",
		"1e-9999": "1e-9999", "-1e-9999": "-1e-9999", "1e-09999": "1e-9999", "10e-10000": "1e-9999", "1000e-10002": "1e-9999", "0.1e-9998": "1e-9999", "1.10e-9998": "11e-9999", "0." + rep("0", 9998) + "7": "7e-9999", "0." + rep("0", 20000) + "1e10002": "1e-9999",
		"0." + rep("0", 20000) + "1e20001": "1", "1" + rep("0", 20000) + "e-20000": "1", "-0." + rep("0", 99999) + "12e100000": "-12e-1",
	} {
		owns(t, s, want, api.OK)
	}
	for _, s := range []string{
		"1e10000", "-1e10000", "1E+10000", "10e9999", "1.0e10000", "0.1e10001", "100e9998", "7" + rep("0", 10000), "1" + rep("0", 20000) + "e-10000",
		"1e-10000", "-1e-10000", "1.1e-9999", "0.1e-9999", "11e-10000", "0.01e-9998", "0." + rep("0", 9999) + "7", "0." + rep("0", 20000) + "1e10001",
		"1e99999", "1e-99999",
	} {
		owns(t, s, "", api.ErrTooLarge)
	}
}

// P4.1: exponents that no integer of the machine can hold, and small ones with very many zeros.
func TestLongExponents(t *testing.T) {
	zeros := rep("0", 100000)
	for s, want := range map[string]string{"e" + zeros: "1", "e-" + zeros: "1", "e+" + zeros + "5": "1e5", "E" + zeros + "9999": "1e9999", "e-" + zeros + "9999": "1e-9999"} {
		owns(t, "1"+s, want, api.OK)
	}
	owns(t, "1e"+zeros+"10000", "", api.ErrTooLarge)
	// Each would be a small one if it wrapped round.
	for _, power := range []string{
		"4294967296", "4294967301", "2147483648", "8589934593", "1099511627776", "9223372036854775807", "9223372036854775808", "9223372036854775813", "18446744073709551615", "18446744073709551616", "18446744073709551621",
		"36893488147419103237", "340282366920938463463374607431768211461", "1" + zeros, rep("9", 100000), zeros + "18446744073709551617",
	} {
		for _, sign := range []string{"", "+", "-"} {
			for _, digits := range []string{"1", "-1", "0.5", "10", "-0.1"} {
				owns(t, digits+"e"+sign+power, "", api.ErrTooLarge)
			}
			owns(t, "0e"+sign+power, "0", api.OK)
		}
	}
}

// P4.1, P4.2: every short text of the bytes of decimals, right or wrong.
func TestShortTexts(t *testing.T) {
	right := 0
	count := func(s string) {
		if holds(t, s) {
			right++
		}
	}
	eachText("-+.eE019", 5, count)
	eachText("-.e019", 6, count)
	eachText("-.e10 x\x80\x00/:", 4, count)
	if right < 5000 {
		t.Errorf("just %d of them were right", right)
	}
}

// P4.1: another byte anywhere in the text of a decimal, one less, and one replaced.
func TestWrongTexts(t *testing.T) {
	for _, s := range []string{"0", "-0", "7", "-120", "1.5", "-0.25", "10.02", "1e2", "1E+10", "-3.40e-05", "0.0E0"} {
		for i := range len(s) + 1 {
			for b := range 256 {
				holds(t, s[:i]+string([]byte{byte(b)})+s[i:])
				if i < len(s) {
					holds(t, s[:i]+string([]byte{byte(b)})+s[i+1:])
				}
			}
			for _, x := range []string{"\u0660", "\u0661", "\uff11", "\u2212", "\u0435", "\u066b", "\ufeff", "\u00a0", "\xc3", "\xed\xa0\x80", "\xf0\x9d\x9f", "\U0001d7cf", "\r\n", "--", "e+", "0x", "1_0", "NaN", "Infinity", "inf"} {
				holds(t, s[:i]+x+s[i:])
			}
			if i < len(s) {
				holds(t, s[:i]+s[i+1:])
				holds(t, s[:i])
			}
		}
	}
}

// P4.1: by hand: where a text can go wrong, with nothing that the model could share.
func TestWrongForms(t *testing.T) {
	for _, s := range []string{
		"", "-", "+", "--1", "-+1", "+1", " 1", "1 ", "\t1", "1\n", "- 1", "1 2", "\x00", "1\x00", "\ufeff1",
		"00", "-00", "01", "-01", "007", "00.5", "0123", "0x1", "0b1", "0o7", "1_000", "1,5", "1,000",
		".", "-.", ".5", "-.5", "1.", "-1.", "0.", "1..5", "1.5.5", "1.-5", "1.+5", "1. 5", "1.e5", "1.x",
		"e", "E5", "e5", "-e5", ".e5", "1e", "1E", "1e+", "1e-", "1e++1", "1e+-1", "1e1.5", "1e.5", "1ee1", "1eE1", "1e1e1", "1e 1", "1e1 ", "1e-x", "1.5e", "1.5E-",
		"x", "1x", "1.5x", "1e5x", "1f", "1d", "inf", "Infinity", "-Infinity", "NaN", "nan", "null", "true", "\"1\"", "1/2", "1;", "(1)", "0a", "a0", "1/", "1:", "/", ":",
		"\xff", "1\xff", "\xff1", "1.\xff", "1.5\x80", "1e\xc3\xa9", "1e5\xed\xa0\x80", "1\xf0\x9d\x9f", "\u0661", "1\u0660", "\uff11", "1.\uff15", "1e\uff12", "\u22121", "1\u066b5",
		rep("9", 1000) + "x", rep("9", 1000) + ".", "1e" + rep("9", 1000) + "x", "0" + rep("0", 1000), "1e10000 ",
	} {
		owns(t, s, "", api.ErrForm)
		if n, e := dec.Int(s); n != 0 || e != api.ErrForm {
			t.Errorf("Int(%s): %d, %v", short(s), n, e)
		}
	}
}

// P4.1, P4.2: texts of all sizes, around both limits, one by one and in pairs.
func TestManyTexts(t *testing.T) {
	r := source()
	last, large := "1", 0
	for range 6000 {
		s := someText(r)
		if !holds(t, s) {
			large++
		}
		compares(t, s, last)
		last = s
	}
	if large < 300 || large > 3000 {
		t.Errorf("%d of them had no canonical form", large)
	}
}

// P4.1: Of by hand, and as the canonical form of its number's text.
func TestOf(t *testing.T) {
	for n, want := range map[int64]string{
		0: "0", 1: "1", -1: "-1", 9: "9", 10: "1e1", -10: "-1e1", 11: "11", 100: "1e2", 101: "101", 110: "11e1", -120: "-12e1", 1000000: "1e6", 1000000000000000000: "1e18", -9000000000000000000: "-9e18",
		math.MaxInt32: "2147483647", math.MaxInt64: "9223372036854775807", math.MaxInt64 - 7: "92233720368547758e2", math.MaxInt64 - 17: "922337203685477579e1", math.MinInt64: "-9223372036854775808", math.MinInt64 + 8: "-92233720368547758e2",
	} {
		if s := dec.Of(n); s != want {
			t.Errorf("Of(%d): %s, not %s", n, s, want)
		}
	}
	eachInt(func(n int64) {
		want, _ := modelOf(strconv.FormatInt(n, 10)).own()
		if s := dec.Of(n); s != want {
			t.Fatalf("Of(%d): %s, not %s", n, s, want)
		}
	})
}

// eachInt visits integers: the small ones, those around powers and around the bounds, and any.
func eachInt(visit func(n int64)) {
	for n := int64(-20000); n <= 20000; n++ {
		visit(n)
	}
	around := func(n int64) {
		for i := int64(-12); i <= 12; i++ {
			visit(n + i)
			visit(-(n + i))
		}
	}
	for n := int64(1); n > 0 && n < math.MaxInt64/10; n *= 10 {
		for i := int64(1); i < 10; i++ {
			around(n * i)
		}
	}
	for n := uint(0); n < 64; n++ {
		around(int64(1) << n)
	}
	r := source()
	for range 20000 {
		visit(int64(r.Uint64()) >> r.UintN(64))
	}
}

// P4.4: Int of Of is the number.
func TestIntLeadsBack(t *testing.T) {
	eachInt(func(n int64) {
		if back, e := dec.Int(dec.Of(n)); back != n || e != api.OK {
			t.Fatalf("Int of Of(%d), %s: %d, %v", n, dec.Of(n), back, e)
		}
		if back, e := dec.Int(strconv.FormatInt(n, 10)); back != n || e != api.OK {
			t.Fatalf("Int of %d: %d, %v", n, back, e)
		}
	})
}

// P4.2: Int by hand, and its errors in their order.
func TestInt(t *testing.T) {
	for _, x := range []struct {
		s string
		n int64
		e api.Errno
	}{
		{"0", 0, api.OK}, {"-0.0e-5", 0, api.OK}, {"7", 7, api.OK}, {"-120.50e1", -1205, api.OK}, {"1.0", 1, api.OK}, {"150e-1", 15, api.OK}, {"0.001e3", 1, api.OK}, {"1e18", 1000000000000000000, api.OK},
		{"-9.000e18", -9000000000000000000, api.OK}, {"1" + rep("0", 300) + "e-300", 1, api.OK}, {"0." + rep("0", 299) + "25e302", 250, api.OK},
		{"9223372036854775807", math.MaxInt64, api.OK}, {"922337203685477580.7e1", math.MaxInt64, api.OK}, {"9223372036854775807.000", math.MaxInt64, api.OK},
		{"-9223372036854775808", math.MinInt64, api.OK}, {"-0.9223372036854775808e19", math.MinInt64, api.OK},
		{"9223372036854775808", 0, api.ErrOver}, {"-9223372036854775809", 0, api.ErrOver}, {"922337203685477580.8e1", 0, api.ErrOver}, {"9223372036854775810", 0, api.ErrOver}, {"-9223372036854775810", 0, api.ErrOver},
		{"1e19", 0, api.ErrOver}, {"-1e19", 0, api.ErrOver}, {"18446744073709551616", 0, api.ErrOver}, {"18446744073709551621", 0, api.ErrOver}, {"1e64", 0, api.ErrOver}, {"1e9999", 0, api.ErrOver}, {"-1e9999", 0, api.ErrOver}, {rep("9", 200), 0, api.ErrOver}, {rep("9", 200) + "e9999", 0, api.ErrOver},
		{"1.5", 0, api.ErrArg}, {"-0.5", 0, api.ErrArg}, {"1e-1", 0, api.ErrArg}, {"15e-1", 0, api.ErrArg}, {"1e-9999", 0, api.ErrArg}, {"9223372036854775807.5", 0, api.ErrArg}, {"9223372036854775808.5", 0, api.ErrArg}, {rep("9", 199) + ".5", 0, api.ErrArg},
		{"1e10000", 0, api.ErrTooLarge}, {"1e-10000", 0, api.ErrTooLarge}, {rep("9", 201), 0, api.ErrTooLarge}, {rep("9", 200) + ".5", 0, api.ErrTooLarge}, {"1e99999", 0, api.ErrTooLarge},
		{"", 0, api.ErrForm}, {"1.", 0, api.ErrForm}, {"1.5x", 0, api.ErrForm}, {"1e10000x", 0, api.ErrForm}, {"007", 0, api.ErrForm},
	} {
		if n, e := dec.Int(x.s); n != x.n || e != x.e {
			t.Errorf("Int(%s): %d, %v, not %d, %v", short(x.s), n, e, x.n, x.e)
		}
	}
}

// P4.2: of two texts without a value the first one's error is returned, and no order.
func TestCmpRefuses(t *testing.T) {
	errors := map[string]api.Errno{"": api.ErrForm, "007": api.ErrForm, "1\xff": api.ErrForm, "1e10000": api.ErrTooLarge, "1e-10000": api.ErrTooLarge, rep("9", 201): api.ErrTooLarge, "1": api.OK, "0e99999": api.OK}
	for a, wantA := range errors {
		for b, wantB := range errors {
			want := wantA
			if want == api.OK {
				want = wantB
			}
			if want == api.OK {
				continue
			}
			if c, e := dec.Cmp(a, b); c != 0 || e != want {
				t.Errorf("Cmp(%s, %s): %d, %v, not %v", short(a), short(b), c, e, want)
			}
		}
	}
}

// ladder: decimals, each one above those before it.
var ladder = []string{
	"-" + rep("9", 200) + "e9999", "-1e9999", "-" + rep("9", 200), "-1e100", "-18446744073709551617", "-101", "-100", "-99.9", "-20", "-19.99", "-12", "-10", "-9.5", "-2", "-1.23", "-1.2", "-1.05", "-1", "-0.9", "-0.1", "-0.09", "-1e-20", "-11e-9999", "-1e-9999",
	"0",
	"1e-9999", "11e-9999", "12e-9999", "2e-9998", "1e-20", "0.09", "0.1", "0.9", "1", "1.0" + rep("0", 197) + "1", "1.05", "1.2", "1.23", "2", "9.5", "10", "12", "19.99", "20", "99.9", "100", "101", "123", "1000", "18446744073709551617", "1e100", "5e199", rep("9", 200), "1e200", "1e9999", "9e9999", "10" + rep("1", 198) + "e9999", rep("9", 200) + "e9999",
}

// P4.2, P4.5: every pair of the ladder in both orders, so that the order is antisymmetric and transitive there; other texts of the same values change nothing.
func TestOrder(t *testing.T) {
	same := make([][]string, len(ladder))
	for i, s := range ladder {
		own, e := dec.Own(s)
		if e != api.OK {
			t.Fatalf("Own(%s): %v", short(s), e)
		}
		same[i] = append(variants(own), s)
	}
	for i, l := range same {
		for j, m := range same {
			want := 0
			if i != j {
				want = (i - j) / max(i-j, j-i)
			}
			for _, a := range l {
				for _, b := range m {
					if c, e := dec.Cmp(a, b); c != want || e != api.OK {
						t.Fatalf("Cmp(%s, %s): %d, %v, not %d", short(a), short(b), c, e, want)
					}
				}
			}
		}
	}
}

// P4.2, P4.5: short texts in pairs, against exact fractions: antisymmetric, and transitive as those are.
func TestOrderOfShortTexts(t *testing.T) {
	var texts []string
	var values []*big.Rat
	eachText("-.e012", 4, func(s string) {
		if _, e := dec.Own(s); e != api.OK {
			return
		}
		value, ok := new(big.Rat).SetString(s)
		if !ok {
			t.Fatalf("%s has no value", s)
		}
		texts, values = append(texts, s), append(values, value)
	})
	if len(texts) < 200 {
		t.Errorf("just %d texts", len(texts))
	}
	for i, a := range texts {
		for j, b := range texts {
			if c, e := dec.Cmp(a, b); c != values[i].Cmp(values[j]) || e != api.OK {
				t.Fatalf("Cmp(%s, %s): %d, %v", a, b, c, e)
			}
		}
	}
	slices.SortFunc(texts, func(a, b string) int {
		c, _ := dec.Cmp(a, b)
		return c
	})
	for i := range texts {
		for _, b := range texts[i:] {
			if c, _ := dec.Cmp(texts[i], b); c > 0 {
				t.Fatalf("%s stands before %s", texts[i], b)
			}
		}
	}
}

// P4.3: one canonical form for each value, one value for each canonical form, which is its own.
func TestOneForm(t *testing.T) {
	forms, values := map[string]string{}, map[string]string{}
	once := func(s string) {
		own, e := dec.Own(s)
		if e != api.OK {
			return
		}
		if again, e := dec.Own(own); again != own || e != api.OK {
			t.Fatalf("%s: %s, and of that %s, %v", s, own, again, e)
		}
		exact, _ := new(big.Rat).SetString(s)
		value := exact.RatString()
		if form, seen := forms[value]; seen && form != own {
			t.Fatalf("%s: %s, but also %s", s, own, form)
		}
		if other, seen := values[own]; seen && other != value {
			t.Fatalf("%s, %s: %s is also of %s", s, value, own, other)
		}
		forms[value], values[own] = own, value
	}
	eachText("-+.eE012", 5, once)
	eachText("-.e012", 6, once)
	if len(forms) < 1000 {
		t.Errorf("just %d values", len(forms))
	}
}

// P4.3: other texts of one value, up to the limits, have its form.
func TestVariantsHaveOneForm(t *testing.T) {
	l := append([]string{"7e9999", "-7e-9999", rep("7", 200) + "e9999", "-" + rep("7", 200) + "e-9999"}, ladder...)
	for _, s := range l {
		own, _ := dec.Own(s)
		for _, other := range variants(own) {
			owns(t, other, own, api.OK)
		}
	}
}

// R3: no result is a part of its argument, which it would keep in memory.
func TestResultsAreNew(t *testing.T) {
	for _, s := range []string{"7", "-7", "123", "0.5", "12e5", "1" + rep("0", 50)} {
		own, e := dec.Own(s)
		if e != api.OK {
			t.Fatalf("Own(%s): %v", s, e)
		}
		from := uintptr(unsafe.Pointer(unsafe.StringData(s)))
		at := uintptr(unsafe.Pointer(unsafe.StringData(own)))
		if at >= from && at < from+uintptr(len(s)) {
			t.Errorf("Own(%s) is a part of it", s)
		}
	}
}
