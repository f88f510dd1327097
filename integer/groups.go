package integer

import (
	"cmp"
	"slices"
	"sort"
	"strconv"
	"strings"
)

// groupDigits is the number of digits of a group, and base is the number of its values.
const (
	groupDigits = 4
	base        = 10000
)

// groups is a number that is not negative, in groups of four digits, the least group first and the last group not 0, so that 0 has no groups.
type groups []int

// groupsOf returns the number that the digits stand for.
func groupsOf(digits string) groups {
	columns := []int{}
	for len(digits) > 0 {
		start := max(0, len(digits)-groupDigits)
		group, _ := strconv.Atoi(digits[start:])
		columns = append(columns, group)
		digits = digits[:start]
	}
	return trimmed(columns)
}

// digits returns the digits that stand for a.
func (a groups) digits() string {
	if len(a) == 0 {
		return "0"
	}
	last := len(a) - 1
	out := strings.Builder{}
	out.WriteString(strconv.Itoa(a[last]))
	for _, group := range slices.Backward(a[:last]) {
		out.WriteString(strconv.Itoa(base + group)[1:])
	}
	return out.String()
}

// fold returns what next makes of start and of all elements, one after the other.
func fold[S, E any](all []E, start S, next func(S, E) S) S {
	for _, e := range all {
		start = next(start, e)
	}
	return start
}

// carried returns the number that the columns add up to, the least one first. They may be negative or base and more, as long as what is carried out of the last one is a group.
func carried(columns []int) groups {
	out := make(groups, 0, len(columns)+1)
	carry := fold(columns, 0, func(carry int, column int) int {
		column += carry
		group := column % base
		if group < 0 {
			group += base
		}
		out = append(out, group)
		return (column - group) / base
	})
	return trimmed(append(out, carry))
}

// trimmed returns the number of these groups, the last of which may be 0.
func trimmed(all []int) groups {
	for len(all) > 0 && all[len(all)-1] == 0 {
		all = all[:len(all)-1]
	}
	return all
}

// compare returns -1, 0 or 1 as a is less than, equal to or greater than b.
func (a groups) compare(b groups) int {
	if len(a) != len(b) {
		return cmp.Compare(len(a), len(b))
	}
	for i, group := range slices.Backward(a) {
		if group != b[i] {
			return cmp.Compare(group, b[i])
		}
	}
	return 0
}

// plus returns the sum of a and b.
func (a groups) plus(b groups) groups {
	columns := make([]int, max(len(a), len(b)))
	copy(columns, a)
	for i, group := range b {
		columns[i] += group
	}
	return carried(columns)
}

// minus returns the difference of a and b, which is at most a.
func (a groups) minus(b groups) groups {
	columns := slices.Clone(a)
	for i, group := range b {
		columns[i] -= group
	}
	return carried(columns)
}

// times returns the product of a and b.
func (a groups) times(b groups) groups {
	columns := make([]int, len(a)+len(b))
	for i, x := range a {
		for j, y := range b {
			columns[i+j] += x * y
		}
	}
	return carried(columns)
}

// divide returns the quotient and the remainder of a by d, which is not 0.
func (a groups) divide(d groups) (groups, groups) {
	if len(a) < len(d) {
		return nil, a
	}
	// The first groups, one less than d has, are less than d: division begins with the next one.
	next := len(a) - len(d) + 1
	rest := a[next:]
	quotient := make([]int, next)
	for i, group := range slices.Backward(a[:next]) {
		rest = trimmed(append([]int{group}, rest...))
		quotient[i] = rest.contains(d)
		rest = rest.minus(d.times(groups{quotient[i]}))
	}
	return trimmed(quotient), rest
}

// contains returns how many times a contains d, which is less than base times.
func (a groups) contains(d groups) int {
	least, most := a.bounds(d)
	holds := a.holds
	return least + sort.Search(most-least, func(n int) bool { return !holds(d, least+n+1) })
}

// bounds returns the least and the greatest number of times that a can contain d, as far as the first three groups of d tell. They are so close to each other that hardly a search is left.
func (a groups) bounds(d groups) (int, int) {
	below := max(0, len(d)-3)
	x, y := a.head(below), d.head(below)
	return x / (y + 1), min(x/y, base-1)
}

// head returns the number that the groups of a from the given one on stand for.
func (a groups) head(from int) int {
	value := 0
	for i := len(a) - 1; i >= from; i-- {
		value = value*base + a[i]
	}
	return value
}

// holds reports whether a is at least n times d, for n less than base.
func (a groups) holds(d groups, n int) bool {
	return a.compare(d.times(groups{n})) >= 0
}

// root returns the greatest number whose square is at most a. The steps are Newton's: from a number that is not less than the root they descend to it, and the first that does not descend has reached it.
func (a groups) root() groups {
	if len(a) == 0 {
		return a
	}
	root := append(make(groups, (len(a)+1)/2), 1)
	for {
		quotient, _ := a.divide(root)
		next, _ := root.plus(quotient).divide(groups{2})
		if next.compare(root) >= 0 {
			return root
		}
		root = next
	}
}
