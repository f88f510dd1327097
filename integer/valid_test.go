package integer_test

import (
	"math"
	"math/big"
	"regexp"
	"strconv"
	"strings"
	"testing"

	"longliner/api"
	"longliner/integer"
)

// form is what an integer looks like, whatever its number of digits.
var form = regexp.MustCompile(`^(0|-?[1-9][0-9]*)$`)

// invalid are strings that are no valid integers.
var invalid = []string{
	"", "-", "-0", "00", "01", "-01", "+1", "+0", "--1", "1-", "1-1", " 1", "1 ", "1\n", "1.0", "1e3", "1_000", "0x1f", "a", "٣", "1٣", "\x00", "1\x00", "/", ":",
	strings.Repeat("9", 201), "1" + strings.Repeat("0", 200), "-1" + strings.Repeat("0", 200), strings.Repeat("0", 200), strings.Repeat("9", 1<<22),
}

// all returns all strings of at most n letters of the alphabet.
func all(alphabet string, n int) []string {
	l := []string{""}
	for from := 0; n > 0; n-- {
		to := len(l)
		for _, s := range l[from:to] {
			for i := range alphabet {
				l = append(l, s+alphabet[i:i+1])
			}
		}
		from = to
	}
	return l
}

// number returns what math/big reads in s.
func number(t *testing.T, s string) *big.Int {
	t.Helper()
	n, ok := new(big.Int).SetString(s, 10)
	if !ok {
		t.Fatalf("%q is no number", s)
	}
	return n
}

func TestValidIsTheFormOfAnInteger(t *testing.T) {
	for _, s := range all("-+0129 a", 5) {
		if got := integer.Valid(s); got != form.MatchString(s) {
			t.Errorf("Valid(%q) = %v", s, got)
		}
	}
	for _, s := range invalid {
		if integer.Valid(s) {
			t.Errorf("Valid of %.300q", s)
		}
	}
}

func TestValidLooksAtEveryByte(t *testing.T) {
	for i := range 12 {
		for b := range 256 {
			s := []byte("-12345678901")
			s[i] = byte(b)
			if got := integer.Valid(string(s)); got != form.MatchString(string(s)) {
				t.Errorf("Valid(%q) = %v", s, got)
			}
		}
	}
	for i := range api.MaxDigits {
		s := []byte(strings.Repeat("8", api.MaxDigits))
		s[i] = 'x'
		if integer.Valid(string(s)) || integer.Valid("-"+string(s)) {
			t.Errorf("Valid of an x at %d", i)
		}
	}
}

func TestValidAllowsTwoHundredDigits(t *testing.T) {
	for n := 1; n < 2*api.MaxDigits; n++ {
		for _, s := range []string{strings.Repeat("9", n), "1" + strings.Repeat("0", n-1)} {
			if integer.Valid(s) != (n <= api.MaxDigits) || integer.Valid("-"+s) != (n <= api.MaxDigits) {
				t.Errorf("Valid of %d digits or of minus them: %v, %v", n, integer.Valid(s), integer.Valid("-"+s))
			}
		}
	}
}

// A number has one valid integer: math/big, which reads other spellings too, writes each of them back as it was.
func TestEachNumberHasOneInteger(t *testing.T) {
	spelt := map[string]string{}
	for _, s := range all("-059", 6) {
		n, ok := new(big.Int).SetString(s, 10)
		if !ok || !integer.Valid(s) {
			continue
		}
		if before, ok := spelt[n.String()]; ok {
			t.Errorf("%q and %q are the same number", before, s)
		}
		spelt[n.String()] = s
		if sum, e := integer.Add(s, "0"); sum != s || e != api.OK {
			t.Errorf("Add(%q, 0) = %q, %d", s, sum, e)
		}
	}
}

func TestFromIntAndToInt(t *testing.T) {
	numbers := []int{math.MinInt, math.MinInt + 1, math.MaxInt, math.MaxInt - 1}
	for n := -20000; n <= 20000; n++ {
		numbers = append(numbers, n)
	}
	for shift := range 63 {
		numbers = append(numbers, 1<<shift, 1<<shift-1, -1<<shift, -1<<shift+1)
	}
	for _, n := range numbers {
		s := integer.FromInt(n)
		if want := big.NewInt(int64(n)).String(); s != want || !integer.Valid(s) {
			t.Errorf("FromInt(%d) = %q", n, s)
		}
		if back, e := integer.ToInt(s); back != n || e != api.OK {
			t.Errorf("ToInt(%q) = %d, %d", s, back, e)
		}
	}
}

func TestToIntRefusesWhatDoesNotFit(t *testing.T) {
	refused := []string{"9223372036854775808", "-9223372036854775809", "18446744073709551616", "18446744073709551615", "-18446744073709551616", "9300000000000000000", "10000000000000000000", strings.Repeat("9", 200), "-" + strings.Repeat("1", 200)}
	for n := 20; n <= 40; n++ {
		refused = append(refused, "1"+strings.Repeat("0", n-1), "-1"+strings.Repeat("0", n-1))
	}
	for _, s := range append(refused, invalid...) {
		if n, e := integer.ToInt(s); n != 0 || e != api.ErrInteger {
			t.Errorf("ToInt(%.300q) = %d, %d", s, n, e)
		}
	}
}

func TestInvalidArgumentsAreRefused(t *testing.T) {
	for _, s := range invalid {
		for _, other := range []string{"0", "1", "-7", strings.Repeat("9", 200), s} {
			refusesPair(t, s, other)
			refusesPair(t, other, s)
		}
		if root, e := integer.Root(s); root != "" || e != api.ErrInteger {
			t.Errorf("Root(%.300q) = %q, %d", s, root, e)
		}
	}
}

// refusesPair checks that each function of two integers refuses a and b, one of which is not valid.
func refusesPair(t *testing.T, a string, b string) {
	t.Helper()
	for name, f := range operations {
		if s, e := f(a, b); s != "" || e != api.ErrInteger {
			t.Errorf("%s(%.30q, %.30q) = %q, %d", name, a, b, s, e)
		}
	}
	if q, r, e := integer.Div(a, b); q != "" || r != "" || e != api.ErrInteger {
		t.Errorf("Div(%.30q, %.30q) = %q, %q, %d", a, b, q, r, e)
	}
	if n := integer.Compare(a, b); n != 0 {
		t.Errorf("Compare(%.30q, %.30q) = %d", a, b, n)
	}
}

// operations are the functions that make one integer of two.
var operations = map[string]func(string, string) (string, api.Errno){"Add": integer.Add, "Sub": integer.Sub, "Mul": integer.Mul, "Gcd": integer.Gcd}

// samples returns integers of all lengths: near powers of ten, of one digit repeated, and of digits in no order, with both signs.
func samples() []string {
	list := []string{"0"}
	for n := 1; n <= api.MaxDigits; n += 1 + n/4 {
		list = append(list, "1"+strings.Repeat("0", n-1), strings.Repeat("9", n), mixed(n, n), mixed(n, n+1))
		if n > 1 {
			list = append(list, "1"+strings.Repeat("0", n-2)+"1", strings.Repeat("9", n-1)+"8", strings.Repeat("10000", n)[:n], strings.Repeat("9999000", n)[:n])
		}
	}
	for _, n := range []int{2, 3, 5, 7, 12, 18, 100, 1001, 5000, 9998, 10002, 12345678, 99990000, math.MaxInt} {
		list = append(list, strconv.Itoa(n))
	}
	for _, s := range list[1:] {
		list = append(list, "-"+s)
	}
	return list
}

// some returns every third of the samples.
func some() []string {
	list := []string{}
	for i, s := range samples() {
		if i%3 == 0 {
			list = append(list, s)
		}
	}
	return list
}

// mixed returns n digits in no order, other ones for another seed.
func mixed(n int, seed int) string {
	digits := []byte{}
	for state := uint32(seed)*2654435761 + 1; len(digits) < n; state = state*1664525 + 1013904223 {
		digit := '0' + byte(state>>24%10)
		if len(digits) > 0 || digit != '0' {
			digits = append(digits, digit)
		}
	}
	return string(digits)
}
