package rational_test

import (
	"math/big"
	"regexp"
	"strings"
	"testing"

	"longliner/api"
	"longliner/rational"
)

// form is what a printed fraction looks like, whether or not it is in lowest terms.
var form = regexp.MustCompile(`^(0|-?[1-9][0-9]*)(/[1-9][0-9]*)?$`)

// printed reports whether s is what math/big writes for the number that it reads in s.
func printed(s string) bool {
	if !form.MatchString(s) {
		return false
	}
	v, ok := new(big.Rat).SetString(s)
	return ok && v.RatString() == s
}

// all returns all strings of at most n letters of the alphabet.
func all(alphabet string, n int) []string {
	l := []string{""}
	for from := 0; n > 0; n-- {
		to := len(l)
		for _, s := range l[from:to] {
			for i := range alphabet {
				l = append(l, s+alphabet[i:i+1])
			}
		}
		from = to
	}
	return l
}

func TestParseIsTheInverseOfPrint(t *testing.T) {
	for _, list := range [][]api.Ratio{samples(), small(20)} {
		for _, r := range list {
			s := rational.Print(r)
			if s != value(r).RatString() {
				t.Fatalf("%s = %s", named("Print", r), s)
			}
			back, e := rational.Parse(s)
			returns(t, "Parse("+s+")", back, e, r)
		}
	}
}

func TestPrintIsTheInverseOfParse(t *testing.T) {
	found := 0
	for _, s := range all("-/0146+", 6) {
		r, e := rational.Parse(s)
		if !printed(s) {
			refused(t, "Parse("+s+")", r, e)
			continue
		}
		found++
		if e != api.OK || !rational.Valid(r) || rational.Print(r) != s || value(r).RatString() != s {
			t.Errorf("Parse(%q) = %s, %d", s, r, e)
		}
	}
	if found < 1000 {
		t.Errorf("only %d fractions were parsed", found)
	}
}

func TestParseLooksAtEveryByte(t *testing.T) {
	for _, from := range []string{"-1234/567", "71/10", "30"} {
		for i := range len(from) {
			for b := range 256 {
				s := []byte(from)
				s[i] = byte(b)
				r, e := rational.Parse(string(s))
				if (e == api.OK) != printed(string(s)) || rational.Print(r) != string(s) && e == api.OK {
					t.Errorf("Parse(%q) = %s, %d", s, r, e)
				}
			}
		}
	}
}

func TestParseRefuses(t *testing.T) {
	for _, s := range []string{
		"", "/", "-", "-/1", "/2", "1/", "1//2", "1/2/3", "1/2/", "/1/2", "3/-2", "-3/-2", "6/4", "3/1", "-3/1", "0/1", "0/2", "1/0", "0/0", "+3", "+1/2", "1/+2", "03", "03/2", "3/02", "-0", "-0/1", "1 /2", "1/ 2", " 1/2", "1/2 ", "1/2\n", "1.5", "1e3", "½", "1⁄2",
		most + "9", "1/" + most + "9", "-" + ten(200) + "/3", most + "/" + most, power + "/2", strings.Repeat("1", 1<<20), strings.Repeat("1/", 1<<20), strings.Repeat("/", 1<<20),
	} {
		r, e := rational.Parse(s)
		refused(t, "Parse("+s+")", r, e)
	}
}

func TestParseAllowsTwoHundredDigits(t *testing.T) {
	for n := 190; n <= 210; n++ {
		for _, s := range []string{ten(n - 1), "-" + mixed(n, n), "1/" + ten(n-1), "-" + mixed(n, n) + "/" + ten(n-1)} {
			r, e := rational.Parse(s)
			if (e == api.OK) != (n <= api.MaxDigits) {
				t.Errorf("Parse(%s) = %s, %d", s, r, e)
			}
		}
	}
}

func TestPrintOfInvalidFractions(t *testing.T) {
	for _, r := range invalid {
		if s := rational.Print(r); s != "" {
			t.Errorf("%.300s = %.300s", named("Print", r), s)
		}
	}
}

func TestFractionsOfTheSameValueAreEqual(t *testing.T) {
	same := func(a api.Ratio, b api.Ratio) {
		want := value(a).Cmp(value(b)) == 0
		if want != (a == b) || want != (rational.Print(a) == rational.Print(b)) {
			t.Fatalf("%s", named("the value", a, b))
		}
	}
	for a, b := range pairs(samples(), 61) {
		same(a, b)
	}
	for a, b := range pairs(small(9), 1) {
		same(a, b)
	}
}

func TestParseExamples(t *testing.T) {
	for s, want := range map[string]api.Ratio{"-3/2": {Num: "-3", Den: "2"}, "0": {Num: "0", Den: "1"}, "1": {Num: "1", Den: "1"}, "-7": {Num: "-7", Den: "1"}, "1/" + most: {Num: "1", Den: most}} {
		r, e := rational.Parse(s)
		returns(t, "Parse("+s+")", r, e, want)
	}
}
