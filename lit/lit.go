// Package lit is layer 1: see shared/doc/01-lit.md.
package lit

import (
	"cmp"

	"bradawl/api"
)

// Right reports whether l is a literal of so many variables.
func Right(l, vars int) bool {
	// Without the bound from below, the least int would be its own negation, and a literal.
	n := max(0, min(vars, api.MaxVars))
	return l != 0 && -n <= l && l <= n
}

// Var returns the variable of a literal.
func Var(l int) int {
	if l < 0 {
		return -l
	}
	return l
}

// Index returns the index of a literal.
func Index(l int) int {
	i := 2 * (Var(l) - 1)
	if l < 0 {
		i++
	}
	return i
}

// At returns the literal with an index.
func At(i int) int {
	v := i/2 + 1
	if i%2 != 0 {
		return -v
	}
	return v
}

// Holds reports whether a literal is true in an assignment.
func Holds(l int, a []bool) bool {
	v := Var(l)
	// No caller may bring it to a panic, not even one that has no such literal.
	if v < 1 || v > len(a) {
		return false
	}
	return a[v-1] == (l > 0)
}

// Compare orders literals by their indices.
func Compare(x, y int) int {
	return cmp.Compare(Index(x), Index(y))
}
