package dec_test

import (
	"math/big"
	"math/rand/v2"
	"regexp"
	"strconv"
	"strings"
	"testing"

	"rostrum/api"
	"rostrum/dec"
)

// The chapter's terms, as plainly as they are written there, so that the package is held against something that shares no code with it.

// form is the text of a decimal: its sign, its digits before and after the point, its exponent.
var form = regexp.MustCompile(`\A(-?)(0|[1-9][0-9]*)(?:\.([0-9]+))?(?:[eE]([+-]?[0-9]+))?\z`)

var ten = big.NewInt(10)

// model is a value: digits with their sign, times 10 to a power, neither of them with a bound; nil: not the text of a decimal.
type model struct {
	digits, power *big.Int
}

// modelOf takes the zeros off the digits' end one by one.
func modelOf(s string) *model {
	parts := form.FindStringSubmatch(s)
	if parts == nil {
		return nil
	}
	m := &model{number(parts[1] + parts[2] + parts[3]), number("0" + parts[4])}
	m.power.Sub(m.power, big.NewInt(int64(len(parts[3]))))
	for m.digits.Sign() != 0 {
		most, last := new(big.Int).QuoRem(m.digits, ten, new(big.Int))
		if last.Sign() != 0 {
			break
		}
		m.digits = most
		m.power.Add(m.power, big.NewInt(1))
	}
	return m
}

// number: digits, of which a sign may stand behind a first 0.
func number(s string) *big.Int {
	s = strings.TrimPrefix(s, "0+")
	if strings.HasPrefix(s, "0-") {
		s = s[1:]
	}
	n, _ := new(big.Int).SetString(s, 10)
	return n
}

func (m *model) own() (string, api.Errno) {
	if m == nil {
		return "", api.ErrForm
	}
	if m.digits.Sign() == 0 {
		return "0", api.OK
	}
	text := m.digits.String()
	if len(strings.TrimPrefix(text, "-")) > 200 || m.power.CmpAbs(big.NewInt(9999)) > 0 {
		return "", api.ErrTooLarge
	}
	if m.power.Sign() != 0 {
		text += "e" + m.power.String()
	}
	return text, api.OK
}

func (m *model) int() (int64, api.Errno) {
	if _, e := m.own(); e != api.OK {
		return 0, e
	}
	if m.digits.Sign() == 0 {
		return 0, api.OK
	}
	if m.power.Sign() < 0 {
		return 0, api.ErrArg
	}
	n := m.times(m.power)
	if !n.IsInt64() {
		return 0, api.ErrOver
	}
	return n.Int64(), api.OK
}

// times: the digits times 10 to a power that is not negative.
func (m *model) times(power *big.Int) *big.Int {
	return new(big.Int).Mul(m.digits, new(big.Int).Exp(ten, power, nil))
}

func (m *model) cmp(n *model) (int, api.Errno) {
	for _, x := range []*model{m, n} {
		if _, e := x.own(); e != api.OK {
			return 0, e
		}
	}
	// A zero's power may be any: nothing is to be brought to it.
	if m.digits.Sign() == 0 || n.digits.Sign() == 0 {
		return m.digits.Cmp(n.digits), api.OK
	}
	apart := new(big.Int).Sub(m.power, n.power)
	if apart.Sign() < 0 {
		return m.digits.Cmp(n.times(apart.Neg(apart))), api.OK
	}
	return m.times(apart).Cmp(n.digits), api.OK
}

// short is a text for a message.
func short(s string) string {
	if len(s) > 60 {
		s = s[:30] + ".." + s[len(s)-30:] + ": " + strconv.Itoa(len(s)) + " bytes"
	}
	return strconv.Quote(s)
}

// holds holds Own and Int of a text against the model, and says whether it has a canonical form.
func holds(t *testing.T, s string) bool {
	t.Helper()
	m := modelOf(s)
	want, wantE := m.own()
	if own, e := dec.Own(s); own != want || e != wantE {
		t.Fatalf("Own(%s): %s, %v, not %s, %v", short(s), short(own), e, short(want), wantE)
	}
	wantN, wantNE := m.int()
	if n, e := dec.Int(s); n != wantN || e != wantNE {
		t.Fatalf("Int(%s): %d, %v, not %d, %v", short(s), n, e, wantN, wantNE)
	}
	return wantE == api.OK
}

// compares holds Cmp of two texts against the model, in both orders.
func compares(t *testing.T, a, b string) {
	t.Helper()
	for range 2 {
		want, wantE := modelOf(a).cmp(modelOf(b))
		if c, e := dec.Cmp(a, b); c != want || e != wantE {
			t.Fatalf("Cmp(%s, %s): %d, %v, not %d, %v", short(a), short(b), c, e, want, wantE)
		}
		a, b = b, a
	}
}

// eachText visits every text of up to so many of these bytes.
func eachText(bytes string, size int, visit func(s string)) {
	var grow func(s string)
	grow = func(s string) {
		visit(s)
		if len(s) == size {
			return
		}
		for i := range len(bytes) {
			grow(s + bytes[i:i+1])
		}
	}
	grow("")
}

// variants are other texts of a decimal's value: more zeros, and the point shifted both ways; for a canonical form.
func variants(own string) []string {
	sign, digits, power := "", own, 0
	if strings.HasPrefix(own, "-") {
		sign, digits = "-", own[1:]
	}
	if at := strings.IndexByte(digits, 'e'); at >= 0 {
		power, _ = strconv.Atoi(digits[at+1:])
		digits = digits[:at]
	}
	with := func(digits, mark string, power int) string { return sign + digits + mark + strconv.Itoa(power) }
	l := []string{own, with(digits, "e", power), with(digits, "E+00", power)}
	if power < 0 {
		l[2] = with(digits, "E-00", -power)
	}
	l = append(l, with(digits+".0", "e", power), with(digits+".0000", "E", power), with("0."+digits, "e", power+len(digits)), with("0.00"+digits+"0", "e", power+len(digits)+2))
	if digits != "0" {
		l = append(l, with(digits+"0", "e", power-1), with(digits+"00.00", "e", power-2), with(digits[:1]+"."+digits[1:]+"0", "E", power+len(digits)-1))
	}
	return l
}

// source makes the same numbers in every run.
func source() *rand.Rand {
	return rand.New(rand.NewPCG(4, 2026))
}

// someText is a text of a decimal or nearly one: of few or very many digits, with an exponent that may make up for them.
func someText(r *rand.Rand) string {
	digits := func(most int) string {
		b := make([]byte, r.IntN(most+1))
		for i := range b {
			b[i] = "0000123456789"[r.IntN(13)]
		}
		return string(b)
	}
	sizes := []int{0, 1, 2, 19, 100, 205}
	s := []string{"", "-"}[r.IntN(2)]
	s += []string{"0", "1", "9" + digits(sizes[r.IntN(len(sizes))])}[r.IntN(3)]
	if r.IntN(2) == 0 {
		s += "." + digits(sizes[r.IntN(len(sizes))]) + "0"
	}
	if r.IntN(3) > 0 {
		power := r.IntN(41) - 20
		if r.IntN(4) == 0 {
			power = []int{-1, 1}[r.IntN(2)] * (9700 + r.IntN(600))
		}
		s += []string{"e", "E"}[r.IntN(2)] + strconv.Itoa(power)
	}
	return s
}
