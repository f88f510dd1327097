package seal_test

import (
	"math"
	"slices"
	"strings"
	"testing"

	"longliner/api"
	"longliner/seal"
)

func TestRoot(t *testing.T) {
	for _, seed := range seeds() {
		for height := range 5 {
			if root, e := seal.Root(seed, height); root != rootOf(seed, height) || e != api.OK {
				t.Errorf("Root(%.20q, %d) = %x, %d", seed, height, root, e)
			}
		}
	}
}

func TestSign(t *testing.T) {
	for _, seed := range seeds()[:3] {
		for height := range 5 {
			for index := range 1 << height {
				message := messages()[(index+height)%len(messages())]
				if got, want := signed(t, seed, height, index, message), sealOf(seed, height, index, message); !same(got, want) {
					t.Errorf("Sign(%.20q, %d, %d, %.20q) = %x; want %x", seed, height, index, message, got, want)
				}
			}
		}
	}
	for _, seed := range seeds() {
		for _, message := range messages() {
			if got, want := signed(t, seed, 1, 1, message), sealOf(seed, 1, 1, message); !same(got, want) {
				t.Errorf("Sign(%.20q, 1, 1, %.20q) = %x; want %x", seed, message, got, want)
			}
		}
	}
}

func TestSignDigitsOfEachSize(t *testing.T) {
	seen := map[[2]int]bool{}
	for i := 0; i < 2000; i++ {
		message := number(i)
		fresh := false
		for chain, d := range digitsOf(message) {
			fresh = fresh || !seen[[2]int{chain, d}]
			seen[[2]int{chain, d}] = true
		}
		if fresh && !same(signed(t, "a", 0, 0, message), sealOf("a", 0, 0, message)) {
			t.Errorf("the digits %v are signed wrongly", digitsOf(message))
		}
	}
	if len(seen) < 17*16 { // the first digit of what is left is hardly ever extreme
		t.Errorf("only %d digits were tried", len(seen))
	}
}

func TestRefusedToSign(t *testing.T) {
	long := strings.Repeat("s", 1001)
	for _, x := range []struct {
		seed   string
		height int
		index  int
	}{
		{"a", 1, 2}, {"a", 5, 2}, {"a", 1, -1}, {"a", 0, 1}, {"a", 2, 4}, {"a", 3, 8}, {"a", 4, 16}, {"a", 4, math.MaxInt}, {"a", 4, math.MinInt},
		{"a", -1, 0}, {"a", 5, 0}, {"a", 6, 0}, {"a", 62, 0}, {"a", 63, 0}, {"a", 64, 0}, {"a", math.MaxInt, 0}, {"a", math.MinInt, 0},
		{long, 0, 0}, {long, 4, 3}, {long + long, 1, 1}, {long, 5, 0}, {long, -1, -1}, {strings.Repeat("s", 1<<20), 2, 0},
	} {
		if s, e := seal.Sign(x.seed, x.height, x.index, "m"); !same(s, api.Seal{}) || e != api.ErrSeal {
			t.Errorf("Sign(%.20q, %d, %d) = %x, %d", x.seed, x.height, x.index, s, e)
		}
		if len(x.seed) <= 1000 && x.height >= 0 && x.height <= 4 {
			continue // only the index is wrong
		}
		if root, e := seal.Root(x.seed, x.height); root != "" || e != api.ErrSeal {
			t.Errorf("Root(%.20q, %d) = %x, %d", x.seed, x.height, root, e)
		}
	}
}

// TestSignedIsAccepted is P8.2.
func TestSignedIsAccepted(t *testing.T) {
	for i, seed := range seeds() {
		for height := range 5 {
			root := rooted(t, seed, height)
			for index := range 1 << height {
				message := messages()[(index+i)%len(messages())]
				if s := signed(t, seed, height, index, message); !seal.Verify(root, height, message, s) {
					t.Errorf("the seal of %.20q by the key %d of %.20q at the height %d is refused", message, index, seed, height)
				}
			}
		}
	}
	root := rooted(t, "a", 1)
	for _, message := range messages() {
		if !seal.Verify(root, 1, message, signed(t, "a", 1, 1, message)) {
			t.Errorf("the seal of %.20q is refused", message)
		}
	}
}

// TestOneMessage is P8.3: among the messages there are two with the same digits.
func TestOneMessage(t *testing.T) {
	root := rooted(t, "a", 1)
	accepted := 0
	for _, m := range messages() {
		s := signed(t, "a", 1, 0, m)
		for _, n := range messages() {
			ok := slices.Equal(digitsOf(m), digitsOf(n))
			if seal.Verify(root, 1, n, s) != ok {
				t.Errorf("the seal of %.20q for %.20q: %v", m, n, !ok)
			}
			if ok && m != n {
				accepted++
			}
		}
	}
	if accepted != 2 || !same(signed(t, "a", 1, 0, twin), signed(t, "a", 1, 0, other)) {
		t.Errorf("%d seals are accepted for other messages", accepted)
	}
}

// stepsOf returns how many steps from its secret the value of each chain of a seal is.
func stepsOf(t *testing.T, seed string, s api.Seal) []int {
	t.Helper()
	found := []int{}
	for chain, value := range s.Chains {
		n := 0
		for x := secretOf(seed, s.Index, chain); x != value; x = steps(x, 1) {
			n++
			if n > 15 {
				t.Fatalf("the chain %d of %x is none", chain, s)
			}
		}
		found = append(found, n)
	}
	return found
}

// forged goes forward from a seal to one of another message, as far as that is possible, and tells in how many chains it is not.
func forged(s api.Seal, have []int, want []int) (api.Seal, int) {
	made, missing := cloned(s), 0
	for chain := range made.Chains {
		made.Chains[chain] = steps(made.Chains[chain], want[chain]-have[chain])
		if want[chain] < have[chain] {
			missing++
		}
	}
	return made, missing
}

// TestGoingBack is P8.4. Among the messages there are pairs of which one has in none of its first 16 digits less than the other: only the last two digits protect these.
func TestGoingBack(t *testing.T) {
	const count = 1200
	root := rooted(t, "a", 0)
	seals, all := []api.Seal{}, [][]int{}
	for i := range count {
		seals = append(seals, signed(t, "a", 0, 0, number(i)))
		all = append(all, stepsOf(t, "a", seals[i]))
	}
	protected := 0
	for i, have := range all {
		for j, want := range all {
			if slices.Equal(have, want) {
				continue
			}
			first := 0
			for chain := range 16 {
				if want[chain] < have[chain] {
					first++
				}
			}
			if first > 0 && (i >= 30 || j >= 30) {
				continue
			}
			made, missing := forged(seals[i], have, want)
			if missing == 0 || seal.Verify(root, 0, number(j), made) {
				t.Errorf("a seal with the steps %v becomes one with %v", have, want)
			}
			if first == 0 {
				protected++
			}
		}
	}
	if protected < 10 {
		t.Errorf("only %d pairs need the last two digits", protected)
	}
}

// TestForgedWithTheMissingChains shows that a forgery fails for what is missing, and for nothing else.
func TestForgedWithTheMissingChains(t *testing.T) {
	root := rooted(t, "a", 2)
	for i := range 20 {
		m, n := number(i), number(i+1)
		made, _ := forged(signed(t, "a", 2, 3, m), digitsOf(m), digitsOf(n))
		for chain, d := range digitsOf(n) {
			if made.Chains[chain] == steps(secretOf("a", 3, chain), d) {
				continue
			}
			if seal.Verify(root, 2, n, made) {
				t.Fatalf("a forged seal of %x is accepted", n)
			}
			made.Chains[chain] = steps(secretOf("a", 3, chain), d)
		}
		if !seal.Verify(root, 2, n, made) {
			t.Errorf("the seal of %x is refused", n)
		}
	}
}

func TestResultsAreNew(t *testing.T) {
	want := sealOf("a", 2, 1, "m")
	s := signed(t, "a", 2, 1, "m")
	_ = append(s.Chains, "x", "y", "z")
	_ = append(s.Path, "x", "y", "z")
	if !same(s, want) {
		t.Error("the chains and the path lie side by side")
	}
	for i := range s.Chains {
		s.Chains[i] = ""
	}
	s.Path[1] = ""
	if !same(signed(t, "a", 2, 1, "m"), want) {
		t.Error("two results share memory")
	}
}
