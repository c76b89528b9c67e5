package number_test

import (
	"math"
	"math/big"
	"math/rand"
	"strconv"
	"strings"
	"testing"

	"rostrum/api"
	"rostrum/number"
)

type call struct {
	name string
	do   func(a, b string) (string, api.Errno)
	want func(z, x, y *big.Int) *big.Int
}

// calls is those that answer a number, and what the library of Go has for them.
func calls() []call {
	return []call{
		{"Add", number.Add, (*big.Int).Add},
		{"Sub", number.Sub, (*big.Int).Sub},
		{"Mul", number.Mul, (*big.Int).Mul},
		{"Quo", number.Quo, (*big.Int).Quo},
		{"Rem", number.Rem, (*big.Int).Rem},
	}
}

func (c call) divides() bool { return c.name == "Quo" || c.name == "Rem" }

func nines(n int) string { return strings.Repeat("9", n) }

func power(n int) string { return "1" + strings.Repeat("0", n) }

// edges is numbers at the ends of limbs, of ints and of all numbers.
func edges() []string {
	l := []string{"0", "1", "2", "9", "10", "9223372036854775807", "9223372036854775808", "9223372036854775809", "18446744073709551615", "18446744073709551616", "499999999", "500000000", "499999999999999999", "500000000000000000"}
	for _, n := range []int{9, 17, 18, 19, 27, 99, 100, 101, 198, 199, 200} {
		l = append(l, nines(n), power(n-1), power(n-2)+"1")
	}
	for _, s := range l[1:] {
		l = append(l, "-"+s)
	}
	return l
}

// wrong is texts that are no numbers.
func wrong() []string {
	return []string{"", "-", "+", "+1", "-0", "00", "01", "-01", "-00", "--1", "-+1", "1-", "1 ", " 1", "1.0", "1e3", "0x1", "1_0", "a", "1a", "a1", "#t", "\x00", "1\n", "\xff", "٣", "/", ":", "1/", "1:", power(200), "-" + power(200), nines(201), "0" + nines(199), strings.Repeat("1", 100000), "-" + strings.Repeat("-", 100)}
}

func random(r *rand.Rand) string {
	b := []byte{'1' + byte(r.Intn(9))}
	for n := r.Intn([]int{3, 12, 40, api.MaxDigits}[r.Intn(4)]); n > 0; n-- {
		digit := byte('0' + r.Intn(10))
		if r.Intn(3) == 0 { // long rows of one digit have carries run far
			digit = b[len(b)-1]
		}
		b = append(b, digit)
	}
	switch r.Intn(20) {
	case 0:
		return "0"
	case 1:
		b = []byte(nines(len(b)))
	case 2:
		b = []byte(power(len(b) - 1))
	}
	if r.Intn(2) == 0 {
		return "-" + string(b)
	}
	return string(b)
}

func bigOf(t *testing.T, s string) *big.Int {
	t.Helper()
	n, ok := new(big.Int).SetString(s, 10)
	if !ok {
		t.Fatalf("%q is no number", s)
	}
	return n
}

// check holds all calls of two numbers against what they mean.
func check(t *testing.T, a, b string) {
	t.Helper()
	x, y := bigOf(t, a), bigOf(t, b)
	for _, c := range calls() {
		got, e := c.do(a, b)
		if c.divides() && y.Sign() == 0 {
			if got != "" || e != api.ErrZero {
				t.Fatalf("%s(%s, %s) = %q, %v", c.name, a, b, got, e)
			}
			continue
		}
		z := c.want(new(big.Int), x, y)
		want, wantE := z.String(), api.OK
		if len(strings.TrimPrefix(want, "-")) > api.MaxDigits {
			want, wantE = "", api.ErrBig
		}
		if got != want || e != wantE {
			t.Fatalf("%s(%s, %s) = %q, %v, want %q, %v", c.name, a, b, got, e, want, wantE)
		}
	}
	if n, e := number.Compare(a, b); n != x.Cmp(y) || e != api.OK {
		t.Fatalf("Compare(%s, %s) = %d, %v", a, b, n, e)
	}
}

// P9.1

func TestCan(t *testing.T) {
	for _, s := range edges() {
		if !number.Can(s) {
			t.Errorf("%s is a number", s)
		}
	}
	for _, s := range wrong() {
		if number.Can(s) {
			t.Errorf("%q is no number", s)
		}
	}
}

func TestCanOfAllShortTexts(t *testing.T) {
	const bytes = "-+019/:"
	texts := []string{""}
	for range 4 {
		for _, s := range texts {
			for i := range len(bytes) {
				texts = append(texts, s+bytes[i:i+1])
			}
		}
	}
	for _, s := range texts {
		n, err := strconv.Atoi(s)
		if want := err == nil && strconv.Itoa(n) == s; number.Can(s) != want {
			t.Fatalf("Can(%q) = %v", s, !want)
		}
	}
}

func TestOfAndSmall(t *testing.T) {
	for _, n := range []int{0, 1, -1, 9, 10, -10, 1 << 31, 1 << 40, -1 << 40, math.MaxInt, math.MinInt, math.MaxInt - 1, math.MinInt + 1} {
		s := number.Of(n)
		if s != strconv.Itoa(n) || !number.Can(s) {
			t.Errorf("Of(%d) = %q", n, s)
		}
		if got, ok := number.Small(s); got != n || !ok {
			t.Errorf("Small(%q) = %d, %v", s, got, ok)
		}
	}
	for _, s := range append(wrong(), "9223372036854775808", "-9223372036854775809", "18446744073709551616", nines(200), "-"+nines(200)) {
		if n, ok := number.Small(s); n != 0 || ok {
			t.Errorf("Small(%q) = %d, %v", s, n, ok)
		}
	}
}

// P9.2

func TestExamples(t *testing.T) {
	for _, c := range []struct {
		do   func(a, b string) (string, api.Errno)
		a, b string
		want string
		e    api.Errno
	}{
		{number.Quo, "-7", "2", "-3", api.OK},
		{number.Rem, "-7", "2", "-1", api.OK},
		{number.Quo, "7", "-2", "-3", api.OK},
		{number.Rem, "7", "-2", "1", api.OK},
		{number.Quo, "-1", "2", "0", api.OK},
		{number.Rem, "-4", "2", "0", api.OK},
		{number.Mul, "-5", "0", "0", api.OK},
		{number.Add, "-5", "5", "0", api.OK},
		{number.Add, nines(200), "0", nines(200), api.OK},
		{number.Add, nines(200), "1", "", api.ErrBig},
		{number.Sub, "-" + nines(200), "1", "", api.ErrBig},
		{number.Sub, nines(200), "-1", "", api.ErrBig},
		{number.Sub, "-" + nines(200), "-1", "-" + nines(199) + "8", api.OK},
		{number.Mul, power(100), power(99), power(199), api.OK},
		{number.Mul, power(100), "-" + power(100), "", api.ErrBig},
		{number.Quo, nines(200), "1", nines(200), api.OK},
		{number.Quo, "0", "0", "", api.ErrZero},
		{number.Rem, nines(200), "0", "", api.ErrZero},
	} {
		if got, e := c.do(c.a, c.b); got != c.want || e != c.e {
			t.Errorf("%s, %s: %q, %v, want %q, %v", c.a, c.b, got, e, c.want, c.e)
		}
	}
}

func TestTextsThatAreNoNumbers(t *testing.T) {
	for _, s := range wrong() {
		for _, other := range append(edges(), wrong()...) {
			for _, p := range [][2]string{{s, other}, {other, s}} {
				for _, c := range calls() {
					if got, e := c.do(p[0], p[1]); got != "" || e != api.ErrNumber {
						t.Fatalf("%s(%.20q, %.20q) = %q, %v", c.name, p[0], p[1], got, e)
					}
				}
				if n, e := number.Compare(p[0], p[1]); n != 0 || e != api.ErrNumber {
					t.Fatalf("Compare(%.20q, %.20q) = %d, %v", p[0], p[1], n, e)
				}
			}
		}
	}
}

func TestSmallNumbers(t *testing.T) {
	for a := -40; a <= 40; a++ {
		for b := -40; b <= 40; b++ {
			check(t, number.Of(a), number.Of(b))
		}
	}
}

func TestEdges(t *testing.T) {
	for _, a := range edges() {
		for _, b := range edges() {
			check(t, a, b)
		}
	}
}

func TestRandomNumbers(t *testing.T) {
	r := rand.New(rand.NewSource(9))
	for range 40000 {
		check(t, random(r), random(r))
	}
}

// TestQuotientsThatAreGuessedTooGreat: divisors whose first limbs are small and whose others are great, and numbers just below and above their multiples.
func TestQuotientsThatAreGuessedTooGreat(t *testing.T) {
	limbs := []string{"000000000", "000000001", "000000002", "499999999", "500000000", "500000001", "999999998", "999999999"}
	for _, first := range []string{"1", "2", "499999999", "500000000", "999999999"} {
		for _, second := range limbs {
			for _, third := range limbs {
				b := first + second + third
				for _, q := range []string{"1", "999999999", "999999998999999999", "500000000999999999", "1000000000000000000"} {
					m, e := number.Mul(b, q)
					if e != api.OK {
						t.Fatal(b, q, e)
					}
					for _, d := range []string{"-1", "0", "1"} {
						a, _ := number.Add(m, d)
						check(t, a, b)
					}
				}
			}
		}
	}
}

// P9.3, P9.4, P9.5

func TestWhatFollows(t *testing.T) {
	r := rand.New(rand.NewSource(93))
	for range 3000 {
		a, b, c := random(r), random(r), random(r)
		for _, f := range []func(a, b string) (string, api.Errno){number.Add, number.Mul} {
			ab, e := f(a, b)
			ba, e2 := f(b, a)
			if ab != ba || e != e2 {
				t.Fatalf("%s, %s: %q, %v; the other way round %q, %v", a, b, ab, e, ba, e2)
			}
			bc, e2 := f(b, c)
			if e != api.OK || e2 != api.OK {
				continue
			}
			left, e := f(ab, c)
			if right, e2 := f(a, bc); left != right || e != e2 {
				t.Fatalf("%s, %s, %s: %q, %v; %q, %v", a, b, c, left, e, right, e2)
			}
		}
		if d, e := number.Sub(a, b); e == api.OK {
			if s, e := number.Add(d, b); s != a || e != api.OK {
				t.Fatalf("%s less %s is %s; with it %s, %v", a, b, d, s, e)
			}
		}
		if b != "0" {
			wantParts(t, a, b)
		}
	}
}

// wantParts: a is b times the quotient, and the rest, which is nearer to nought than b, and has a's sign.
func wantParts(t *testing.T, a, b string) {
	t.Helper()
	q, e := number.Quo(a, b)
	rest, e2 := number.Rem(a, b)
	if e != api.OK || e2 != api.OK {
		t.Fatal(a, b, e, e2)
	}
	m, e := number.Mul(b, q)
	s, e2 := number.Add(m, rest)
	if s != a || e != api.OK || e2 != api.OK {
		t.Fatalf("%s is not %s times %s, and %s", a, b, q, rest)
	}
	if n, _ := number.Compare(strings.TrimPrefix(rest, "-"), strings.TrimPrefix(b, "-")); n >= 0 {
		t.Fatalf("%s leaves %s of %s", b, rest, a)
	}
	if rest != "0" && (rest[0] == '-') != (a[0] == '-') {
		t.Fatalf("%s leaves %s of %s", b, rest, a)
	}
}
