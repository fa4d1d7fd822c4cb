package ticks_test

import (
	"math"
	"math/big"
	"testing"

	"bradawl/ticks"
)

// numbers are such that a sign, a bound or a carry may go wrong with them.
var numbers = []int{
	math.MinInt, math.MinInt + 1, -ticks.End - 1, -ticks.End, -ticks.End + 1, math.MinInt32, -1000, -5, -2, -1,
	0, 1, 2, 3, 4, 5, 7, 10, 99, 100, 1000, 1<<16 - 1, 1 << 16, 1<<20 + 1, 1<<30 - 1, 1 << 30, 1<<30 + 1,
	1<<31 - 1, 1 << 31, 1<<31 + 1, 1<<32 - 1, 1 << 32, 1<<32 + 1, 3037000499, 3037000500, 1<<40 - 1, 1 << 40,
	1<<60 + 1, 1<<61 - 1, 1 << 61, 1<<61 + 1, ticks.End / 3, ticks.End/3 + 1, ticks.End - 2, ticks.End - 1, ticks.End,
	ticks.End + 1, ticks.End + 2, 1<<62 + 1<<61, math.MaxInt - 1, math.MaxInt,
}

// A recurrence stands in for a random source, so that every run tests the same.
type recurrence uint32

// below returns a number from 0 to n - 1.
func (r *recurrence) below(n int) int {
	*r = *r*1664525 + 1013904223
	return int(*r>>8) % n
}

// number returns any int: often one of those above, or a small one.
func (r *recurrence) number() int {
	switch r.below(4) {
	case 0:
		return numbers[r.below(len(numbers))]
	case 1:
		return r.below(20) - 5
	case 2:
		return (1<<r.below(63) - 1) & r.any()
	}
	return r.any()
}

// any returns an int of which each bit is drawn.
func (r *recurrence) any() int {
	return int(uint64(r.below(1<<22))<<42 ^ uint64(r.below(1<<22))<<21 ^ uint64(r.below(1<<22)))
}

// theEnd is 2 to the power of 62, without the constant of the package.
func theEnd() *big.Int {
	return new(big.Int).Lsh(big.NewInt(1), 62)
}

// clamped returns n in the range from 0 to the end.
func clamped(n *big.Int) *big.Int {
	switch {
	case n.Sign() < 0:
		return new(big.Int)
	case n.Cmp(theEnd()) > 0:
		return theEnd()
	}
	return new(big.Int).Set(n)
}

// plainSum is Sum by the chapter's words.
func plainSum(a, b int) int {
	x, y := clamped(big.NewInt(int64(a))), clamped(big.NewInt(int64(b)))
	return int(clamped(x.Add(x, y)).Int64())
}

// plainTimes is Times by the chapter's words.
func plainTimes(a, b int) int {
	x, y := clamped(big.NewInt(int64(a))), clamped(big.NewInt(int64(b)))
	return int(clamped(x.Mul(x, y)).Int64())
}

// plainLuby is Luby by the chapter's words, with the least k searched from 0 on.
func plainLuby(i *big.Int) *big.Int {
	one := big.NewInt(1)
	if i.Cmp(one) < 0 {
		return one
	}
	k := uint(0)
	for i.Cmp(new(big.Int).Lsh(one, k)) >= 0 {
		k++
	}
	half := new(big.Int).Lsh(one, k-1)
	full := new(big.Int).Lsh(one, k)
	if i.Cmp(full.Sub(full, one)) == 0 {
		return half
	}
	rest := new(big.Int).Sub(i, half)
	return plainLuby(rest.Add(rest, one))
}

// A model is a count by the chapter's words, in numbers without a bound.
type model struct {
	count, budget *big.Int
}

// newModel is New, and Reset.
func newModel(budget int) *model {
	if budget < 0 {
		return &model{new(big.Int), theEnd()}
	}
	return &model{new(big.Int), clamped(big.NewInt(int64(budget)))}
}

// add is Add.
func (m *model) add(n int) bool {
	m.count.Add(m.count, clamped(big.NewInt(int64(n))))
	m.count = clamped(m.count)
	return !m.over()
}

// left is Left.
func (m *model) left() int {
	rest := new(big.Int).Sub(m.budget, m.count)
	if rest.Sign() < 0 {
		return 0
	}
	return int(rest.Int64())
}

// over is Over.
func (m *model) over() bool {
	return m.count.Cmp(m.budget) >= 0 && m.budget.Cmp(theEnd()) < 0
}

// wantCount holds what a count tells against what is said.
func wantCount(t *testing.T, c *ticks.Count, value, left int, over bool) {
	t.Helper()
	if c.Value() != value || c.Left() != left || c.Over() != over {
		t.Errorf("the count is %d, %d is left, over: %v; not %d, %d, %v", c.Value(), c.Left(), c.Over(), value, left, over)
	}
}

// wantAdd adds to a count, and holds what it tells against what is said.
func wantAdd(t *testing.T, c *ticks.Count, n, value, left int, over bool) {
	t.Helper()
	if got := c.Add(n); got == over {
		t.Errorf("Add(%d) is %v", n, got)
	}
	wantCount(t, c, value, left, over)
}

func TestExample(t *testing.T) {
	if got := ticks.Luby(7); got != 4 {
		t.Errorf("Luby(7) is %d", got)
	}
}

// P10.1: the end.
func TestEnd(t *testing.T) {
	if ticks.End != 4611686018427387904 {
		t.Errorf("the end is %d", ticks.End)
	}
}

// P10.1: Sum, of which both are clamped first.
func TestSum(t *testing.T) {
	cases := []struct{ a, b, want int }{
		{0, 0, 0}, {1, 2, 3}, {100, 23, 123}, {-1, 5, 5}, {5, -1, 5}, {-3, -4, 0}, {math.MinInt, 7, 7}, {math.MinInt, math.MinInt, 0},
		{ticks.End, 0, ticks.End}, {0, ticks.End, ticks.End}, {ticks.End - 1, 1, ticks.End}, {ticks.End - 2, 1, ticks.End - 1},
		{ticks.End - 1, 2, ticks.End}, {ticks.End / 2, ticks.End / 2, ticks.End}, {ticks.End / 2, ticks.End/2 - 1, ticks.End - 1},
		{ticks.End, ticks.End, ticks.End}, {ticks.End, -1, ticks.End}, {ticks.End + 5, -5, ticks.End},
		{math.MaxInt, math.MaxInt, ticks.End}, {math.MaxInt, 1, ticks.End}, {math.MaxInt, math.MinInt, ticks.End},
	}
	for _, c := range cases {
		if got := ticks.Sum(c.a, c.b); got != c.want {
			t.Errorf("Sum(%d, %d) is %d, not %d", c.a, c.b, got, c.want)
		}
	}
}

// P10.1: Times, of which both are clamped first.
func TestTimes(t *testing.T) {
	cases := []struct{ a, b, want int }{
		{0, 0, 0}, {3, 4, 12}, {1, 99, 99}, {-1, 5, 0}, {5, -1, 0}, {-3, -4, 0}, {math.MinInt, -1, 0}, {math.MinInt, math.MinInt, 0},
		{0, ticks.End, 0}, {ticks.End, 0, 0}, {1, ticks.End, ticks.End}, {ticks.End, 1, ticks.End}, {ticks.End - 1, 1, ticks.End - 1},
		{1 << 31, 1 << 31, ticks.End}, {1 << 31, 1<<31 - 1, 1<<62 - 1<<31}, {1<<31 + 1, 1<<31 - 1, ticks.End - 1},
		{1 << 32, 1 << 32, ticks.End}, {1 << 32, 1 << 31, ticks.End}, {1 << 33, 1 << 31, ticks.End}, {1 << 40, 1 << 40, ticks.End},
		{ticks.End / 2, 2, ticks.End}, {ticks.End/2 - 1, 2, ticks.End - 2}, {ticks.End / 2, 3, ticks.End}, {ticks.End / 2, 4, ticks.End},
		{3, ticks.End / 3, ticks.End - 1}, {3, ticks.End/3 + 1, ticks.End}, {ticks.End, ticks.End, ticks.End},
		{ticks.End, -1, 0}, {math.MaxInt, math.MaxInt, ticks.End}, {math.MaxInt, 1, ticks.End}, {math.MaxInt, 0, 0},
	}
	for _, c := range cases {
		if got := ticks.Times(c.a, c.b); got != c.want {
			t.Errorf("Times(%d, %d) is %d, not %d", c.a, c.b, got, c.want)
		}
	}
}

// P10.1: Sum and Times, held against numbers without a bound.
func TestSumsAndTimes(t *testing.T) {
	hold := func(a, b int) {
		if got, want := ticks.Sum(a, b), plainSum(a, b); got != want {
			t.Errorf("Sum(%d, %d) is %d, not %d", a, b, got, want)
		}
		if got, want := ticks.Times(a, b), plainTimes(a, b); got != want {
			t.Errorf("Times(%d, %d) is %d, not %d", a, b, got, want)
		}
	}
	for _, a := range numbers {
		for _, b := range numbers {
			hold(a, b)
		}
	}
	r := recurrence(10)
	for range 50000 {
		hold(r.number(), r.number())
	}
}

// P10.1: a count goes up to its budget, and further.
func TestBudget(t *testing.T) {
	c := ticks.New(10)
	wantCount(t, c, 0, 10, false)
	wantAdd(t, c, 4, 4, 6, false)
	wantAdd(t, c, 0, 4, 6, false)
	wantAdd(t, c, 5, 9, 1, false)
	wantAdd(t, c, 1, 10, 0, true)
	wantAdd(t, c, 0, 10, 0, true)
	wantAdd(t, c, 7, 17, 0, true)
	wantAdd(t, c, ticks.End, ticks.End, 0, true)
	wantAdd(t, c, 1, ticks.End, 0, true)
}

// P10.1: a budget of 0 is over at once.
func TestBudgetOfNothing(t *testing.T) {
	c := ticks.New(0)
	wantCount(t, c, 0, 0, true)
	wantAdd(t, c, 0, 0, 0, true)
	wantAdd(t, c, 3, 3, 0, true)
}

// P10.1: without a bound, nothing is ever over, though nothing may be left.
func TestWithoutABound(t *testing.T) {
	for _, budget := range []int{-1, -2, math.MinInt32, -ticks.End, math.MinInt, ticks.End, ticks.End + 1, math.MaxInt} {
		c := ticks.New(budget)
		wantCount(t, c, 0, ticks.End, false)
		wantAdd(t, c, 5, 5, ticks.End-5, false)
		wantAdd(t, c, ticks.End-6, ticks.End-1, 1, false)
		wantAdd(t, c, 1, ticks.End, 0, false)
		wantAdd(t, c, 1, ticks.End, 0, false)
		wantAdd(t, c, math.MaxInt, ticks.End, 0, false)
	}
}

// P10.1: one less than the end is a bound.
func TestGreatestBound(t *testing.T) {
	c := ticks.New(ticks.End - 1)
	wantCount(t, c, 0, ticks.End-1, false)
	wantAdd(t, c, ticks.End-2, ticks.End-2, 1, false)
	wantAdd(t, c, 1, ticks.End-1, 0, true)
	wantAdd(t, c, 1, ticks.End, 0, true)
}

// P10.1: what is added is clamped, as Sum does.
func TestAddIsClamped(t *testing.T) {
	c := ticks.New(5)
	wantAdd(t, c, -3, 0, 5, false)
	wantAdd(t, c, 2, 2, 3, false)
	wantAdd(t, c, -1, 2, 3, false)
	wantAdd(t, c, math.MinInt, 2, 3, false)
	wantAdd(t, c, math.MaxInt, ticks.End, 0, true)
	wantAdd(t, c, -ticks.End, ticks.End, 0, true)
}

// P10.1: Reset makes it as after New, whatever it was.
func TestReset(t *testing.T) {
	c := ticks.New(3)
	wantAdd(t, c, 8, 8, 0, true)
	c.Reset(4)
	wantCount(t, c, 0, 4, false)
	wantAdd(t, c, 4, 4, 0, true)
	c.Reset(-1)
	wantCount(t, c, 0, ticks.End, false)
	wantAdd(t, c, ticks.End, ticks.End, 0, false)
	c.Reset(0)
	wantCount(t, c, 0, 0, true)
	c.Reset(math.MaxInt)
	wantCount(t, c, 0, ticks.End, false)
	c.Reset(math.MinInt)
	wantCount(t, c, 0, ticks.End, false)
}

// P10.1: counts have nothing to do with each other.
func TestCountsAreTheirOwn(t *testing.T) {
	a, b := ticks.New(5), ticks.New(5)
	wantAdd(t, a, 5, 5, 0, true)
	wantCount(t, b, 0, 5, false)
	wantAdd(t, b, 1, 1, 4, false)
	a.Reset(9)
	wantCount(t, a, 0, 9, false)
	wantCount(t, b, 1, 4, false)
}

// P10.1: random calls, each held against the model.
func TestRandomCalls(t *testing.T) {
	r := recurrence(11)
	for range 3000 {
		budget := r.number()
		c, m := ticks.New(budget), newModel(budget)
		for step := range 20 {
			n := r.number()
			if r.below(10) == 0 {
				c.Reset(n)
				m = newModel(n)
			} else if got, want := c.Add(n), m.add(n); got != want {
				t.Fatalf("budget %d, step %d: Add(%d) is %v", budget, step, n, got)
			}
			wantCount(t, c, int(m.count.Int64()), m.left(), m.over())
		}
	}
}

// P10.1: the sequence from its beginning.
func TestLuby(t *testing.T) {
	want := []int{1, 1, 2, 1, 1, 2, 4, 1, 1, 2, 1, 1, 2, 4, 8, 1, 1, 2, 1, 1, 2, 4, 1, 1, 2, 1, 1, 2, 4, 8, 16, 1, 1, 2}
	for i, w := range want {
		if got := ticks.Luby(i + 1); got != w {
			t.Errorf("Luby(%d) is %d, not %d", i+1, got, w)
		}
	}
}

// P10.1: the sequence is twice itself, and then the next power.
func TestLubyRepeats(t *testing.T) {
	var sequence []int
	for next := 1; next <= 1<<15; next *= 2 {
		sequence = append(append(sequence, sequence...), next)
	}
	for i, want := range sequence {
		if got := ticks.Luby(i + 1); got != want {
			t.Fatalf("Luby(%d) is %d, not %d", i+1, got, want)
		}
	}
}

// P10.1: around each power, up to the greatest index, and elsewhere, held against the chapter's words.
func TestLubyOfGreatIndices(t *testing.T) {
	hold := func(i int) {
		if got, want := ticks.Luby(i), plainLuby(big.NewInt(int64(i))); !want.IsInt64() || int64(got) != want.Int64() {
			t.Errorf("Luby(%d) is %d, not %d", i, got, want)
		}
	}
	for k := range 41 {
		for d := -3; d <= 3; d++ {
			hold(min(1<<k+d, 1<<40))
		}
	}
	r := recurrence(12)
	for range 5000 {
		hold(1 + r.any()&(1<<40-1))
	}
	if got := ticks.Luby(1<<40 - 1); got != 1<<39 {
		t.Errorf("Luby(2^40 - 1) is %d", got)
	}
	if got := ticks.Luby(1 << 40); got != 1 {
		t.Errorf("Luby(2^40) is %d", got)
	}
}

// P10.1: an index less than 1 has a 1.
func TestLubyBeforeItsBeginning(t *testing.T) {
	for _, i := range []int{0, -1, -2, -3, -7, -8, math.MinInt32, -1 << 40, math.MinInt + 1, math.MinInt} {
		if got := ticks.Luby(i); got != 1 {
			t.Errorf("Luby(%d) is %d", i, got)
		}
	}
}

// P0 for this layer: every call returns, whatever numbers it is passed.
func TestWrongInputsReturn(t *testing.T) {
	for _, n := range numbers {
		c := ticks.New(n)
		for _, m := range numbers {
			c.Add(m)
			c.Left()
			c.Over()
			c.Value()
			c.Reset(m)
			ticks.Sum(n, m)
			ticks.Times(n, m)
		}
		ticks.Luby(n)
	}
	// Beyond 2^40 nothing is specified, but each index still has some power of 2.
	for k := range 63 {
		for d := -2; d <= 2; d++ {
			if got := ticks.Luby(1<<k + d); got < 1 || got&(got-1) != 0 {
				t.Errorf("Luby(2^%d + %d) is %d", k, d, got)
			}
		}
	}
	if got := ticks.Luby(math.MaxInt); got < 1 || got&(got-1) != 0 {
		t.Errorf("Luby(%d) is %d", math.MaxInt, got)
	}
}
