package table_test

import (
	"math"
	"math/big"
	"slices"
	"testing"

	"bradawl/table"
)

// numbers are such that a sign, a bound or a carry may go wrong with them.
var numbers = []int{
	math.MinInt, math.MinInt + 1, -1 << 62, -1 << 40, math.MinInt32, -257, -256, -64, -63, -62, -17, -16, -3, -2, -1,
	0, 1, 2, 3, 4, 15, 16, 17, 18, 31, 32, 33, 61, 62, 63, 64, 65, 66, 100, 127, 128, 255, 256, 257, 258, 1000,
	math.MaxInt32, 1 << 32, 1<<32 + 1, 1 << 40, 1 << 62, math.MaxInt - 63, math.MaxInt - 1, math.MaxInt,
}

// draws are numbers that Pick may be given, of which half would be negative as an int.
var draws = []uint64{
	0, 1, 2, 3, 63, 64, 1<<31 - 1, 1 << 31, 1 << 32, 1<<39 - 1, 1 << 39, 1<<40 - 1, 1 << 40, 1<<40 + 1, 1 << 41, 1 << 52,
	1<<62 - 1, 1 << 62, 1<<63 - 1, 1 << 63, 1<<63 + 1, math.MaxUint64 - 1, math.MaxUint64,
}

// most is how many breaks may be given to a call.
const most = 1 << 12

// A recurrence stands in for a random source, so that every run tests the same.
type recurrence uint32

// below returns a number from 0 to n - 1.
func (r *recurrence) below(n int) int {
	*r = *r*1664525 + 1013904223
	return int(*r>>8) % n
}

// word returns a number of which each bit is drawn.
func (r *recurrence) word() uint64 {
	return uint64(r.below(1<<22))<<42 ^ uint64(r.below(1<<22))<<21 ^ uint64(r.below(1<<22))
}

// count returns a number of breaks: most often one that has a weight of its own.
func (r *recurrence) count() int {
	switch r.below(10) {
	case 0:
		return numbers[r.below(len(numbers))]
	case 1:
		return r.below(200) - 50
	case 2, 3:
		return r.below(64)
	}
	return r.below(5)
}

// list returns up to n - 1 numbers of breaks.
func (r *recurrence) list(n int) []int {
	breaks := make([]int, r.below(n))
	for i := range breaks {
		breaks[i] = r.count()
	}
	return breaks
}

// valid returns a kind, and a base for it.
func (r *recurrence) valid() (kind, base int) {
	if r.below(2) == 0 {
		return table.Poly, 1 + r.below(64)
	}
	return table.Exp, 17 + r.below(240)
}

// everyTable calls f with each kind and base for which there is a table.
func everyTable(f func(kind, base int)) {
	for base := 1; base <= 64; base++ {
		f(table.Poly, base)
	}
	for base := 17; base <= 256; base++ {
		f(table.Exp, base)
	}
}

// A model is the weights by the chapter's words, in numbers without a bound.
type model []*big.Int

// newModel is New.
func newModel(kind, base int) model {
	whole := new(big.Int).Lsh(big.NewInt(1), 40)
	var m model
	for k := range 64 {
		weight := new(big.Int).Set(whole)
		if kind == table.Poly {
			third := new(big.Int).Exp(big.NewInt(int64(base+k)), big.NewInt(3), nil)
			weight.Div(whole, third)
		} else if k > 0 {
			weight.Mul(m[k-1], big.NewInt(16))
			weight.Div(weight, big.NewInt(int64(base)))
		}
		if weight.Sign() == 0 {
			weight.SetInt64(1)
		}
		m = append(m, weight)
	}
	return m
}

// weight is Weight.
func (m model) weight(k int) *big.Int {
	switch {
	case k < 0:
		return m[0]
	case k > 63:
		return m[63]
	}
	return m[k]
}

// total is Total.
func (m model) total(breaks []int) *big.Int {
	sum := new(big.Int)
	for _, k := range breaks {
		sum.Add(sum, m.weight(k))
	}
	return sum
}

// pick is Pick, with the sum anew for each index.
func (m model) pick(breaks []int, x uint64) int {
	if len(breaks) == 0 {
		return -1
	}
	r := new(big.Int).SetUint64(x)
	r.Mod(r, m.total(breaks))
	for i := range breaks {
		if m.total(breaks[:i+1]).Cmp(r) > 0 {
			return i
		}
	}
	return -1
}

// wantWeight holds a weight against what is said.
func wantWeight(t *testing.T, kind, base, k, want int) {
	t.Helper()
	if got := table.New(kind, base).Weight(k); got != want {
		t.Errorf("kind %d, base %d: Weight(%d) is %d, not %d", kind, base, k, got, want)
	}
}

// wantPick holds an index against what is said.
func wantPick(t *testing.T, l *table.Table, breaks []int, x uint64, want int) {
	t.Helper()
	if got := l.Pick(breaks, x); got != want {
		t.Errorf("Pick(%v, %d) is %d, not %d", breaks, x, got, want)
	}
}

func TestExample(t *testing.T) {
	wantWeight(t, table.Poly, 1, 0, 1<<40)
	wantWeight(t, table.Poly, 1, 1, 1<<37)
}

// P11.1: the kinds.
func TestKinds(t *testing.T) {
	if table.Poly != 0 || table.Exp != 1 {
		t.Errorf("the kinds are %d and %d", table.Poly, table.Exp)
	}
}

// P11.1: Right at both ends of both kinds.
func TestRight(t *testing.T) {
	cases := []struct {
		kind, base int
		want       bool
	}{
		{0, 1, true}, {0, 2, true}, {0, 17, true}, {0, 63, true}, {0, 64, true},
		{0, 0, false}, {0, -1, false}, {0, 65, false}, {0, 256, false}, {0, math.MinInt, false}, {0, math.MaxInt, false},
		{1, 17, true}, {1, 18, true}, {1, 64, true}, {1, 65, true}, {1, 255, true}, {1, 256, true},
		{1, 16, false}, {1, 1, false}, {1, 0, false}, {1, -17, false}, {1, 257, false}, {1, math.MinInt, false}, {1, math.MaxInt, false},
		{2, 0, false}, {2, 1, false}, {2, 32, false}, {2, 64, false}, {2, 256, false}, {-1, 32, false}, {-1, 1, false},
		{math.MinInt, 32, false}, {math.MaxInt, 32, false}, {1 << 32, 32, false}, {1<<32 + 1, 32, false},
	}
	for _, c := range cases {
		if got := table.Right(c.kind, c.base); got != c.want {
			t.Errorf("Right(%d, %d) is %v", c.kind, c.base, got)
		}
	}
}

// P11.1: Right is true for the tables that there are, and no others.
func TestRightOfAll(t *testing.T) {
	there := map[[2]int]int{}
	everyTable(func(kind, base int) { there[[2]int{kind, base}]++ })
	hold := func(kind, base int) {
		if got, want := table.Right(kind, base), there[[2]int{kind, base}] == 1; got != want {
			t.Errorf("Right(%d, %d) is %v", kind, base, got)
		}
	}
	for kind := -3; kind <= 4; kind++ {
		for base := -300; base <= 600; base++ {
			hold(kind, base)
		}
	}
	for _, kind := range numbers {
		for _, base := range numbers {
			hold(kind, base)
		}
	}
}

// P11.1: the weights of the kind Poly, rounded down.
func TestPolyWeights(t *testing.T) {
	cases := []struct{ base, k, want int }{
		{1, 0, 1099511627776}, {1, 1, 137438953472}, {1, 2, 40722652880}, {1, 3, 17179869184}, {1, 10, 826079359}, {1, 62, 4397219}, {1, 63, 4194304},
		{2, 0, 137438953472}, {2, 1, 40722652880}, {2, 2, 17179869184}, {2, 3, 8796093022}, {2, 63, 4003683},
		{3, 0, 40722652880}, {3, 2, 8796093022}, {3, 10, 500460458}, {3, 62, 4003683},
		{64, 0, 4194304}, {64, 1, 4003683}, {64, 10, 2713342}, {64, 62, 549652}, {64, 63, 536770},
	}
	for _, c := range cases {
		wantWeight(t, table.Poly, c.base, c.k, c.want)
	}
}

// P11.1: the weights of the kind Exp, rounded down at each step, and at least 1.
func TestExpWeights(t *testing.T) {
	cases := []struct{ base, k, want int }{
		{32, 0, 1 << 40}, {32, 1, 1 << 39}, {32, 2, 1 << 38}, {32, 10, 1 << 30}, {32, 39, 2}, {32, 40, 1}, {32, 41, 1}, {32, 63, 1},
		{17, 0, 1 << 40}, {17, 1, 1034834473200}, {17, 2, 973961857129}, {17, 3, 916669983180}, {17, 30, 178374046609}, {17, 62, 25633365239}, {17, 63, 24125520224},
		{24, 2, 488671834566}, {24, 6, 96527769790}, {24, 62, 12}, {24, 63, 8}, {33, 2, 258471052993}, {33, 3, 125319298420}, {33, 30, 406}, {33, 63, 1},
		{255, 1, 68988964880}, {255, 2, 4328719365}, {255, 63, 1}, {256, 1, 1 << 36}, {256, 2, 1 << 32}, {256, 9, 16}, {256, 10, 1}, {256, 11, 1}, {256, 63, 1},
	}
	for _, c := range cases {
		wantWeight(t, table.Exp, c.base, c.k, c.want)
	}
}

// P11.1: each weight of each table, held against numbers without a bound.
func TestWeights(t *testing.T) {
	everyTable(func(kind, base int) {
		l, m := table.New(kind, base), newModel(kind, base)
		for k := -70; k <= 140; k++ {
			if got, want := l.Weight(k), int(m.weight(k).Int64()); got != want {
				t.Errorf("kind %d, base %d: Weight(%d) is %d, not %d", kind, base, k, got, want)
			}
		}
	})
}

// P11.1: fewer breaks than 0 count as 0, and more than 63 as 63.
func TestWeightsOutside(t *testing.T) {
	everyTable(func(kind, base int) {
		l := table.New(kind, base)
		none, last := l.Weight(0), l.Weight(63)
		for _, k := range numbers {
			got := l.Weight(k)
			if k < 0 && got != none || k > 63 && got != last {
				t.Errorf("kind %d, base %d: Weight(%d) is %d", kind, base, k, got)
			}
		}
	})
}

// P11.1: sums of weights, also of breaks that have no weight of their own.
func TestTotal(t *testing.T) {
	half := table.New(table.Exp, 32)
	cases := []struct {
		breaks []int
		want   int
	}{
		{nil, 0}, {[]int{}, 0}, {[]int{0}, 1 << 40}, {[]int{1, 0, 1}, 1 << 41}, {[]int{0, 1, 2}, 7 << 38}, {[]int{2, 1, 0}, 7 << 38},
		{[]int{40}, 1}, {[]int{63}, 1}, {[]int{64, 1000, math.MaxInt}, 3}, {[]int{-1, -1000, math.MinInt}, 3 << 40}, {[]int{-5, 100}, 1<<40 + 1},
		{[]int{39, 40, 41}, 4}, {[]int{5, 5, 5, 5}, 1 << 37},
	}
	for _, c := range cases {
		if got := half.Total(c.breaks); got != c.want {
			t.Errorf("Total(%v) is %d, not %d", c.breaks, got, c.want)
		}
	}
}

// P11.1: as many breaks as there may be, each with the greatest weight, and the places at which Pick changes.
func TestMostBreaks(t *testing.T) {
	breaks := make([]int, most)
	for _, l := range []*table.Table{table.New(table.Poly, 1), table.New(table.Exp, 17), table.New(table.Exp, 256)} {
		if got := l.Total(breaks); got != 1<<52 {
			t.Errorf("the total is %d", got)
		}
		for _, i := range []uint64{0, 1, 2, 77, most/2 - 1, most / 2, most - 2, most - 1} {
			for _, turn := range []uint64{0, 1 << 52, 4095 << 52} {
				for _, x := range []uint64{i << 40, i<<40 + 1, (i+1)<<40 - 1} {
					if got := l.Pick(breaks, turn+x); got != int(i) {
						t.Errorf("Pick(.., %d) is %d, not %d", turn+x, got, i)
					}
				}
			}
		}
	}
}

// P11.1: an index has the numbers from the sum before it up to the sum with it.
func TestPick(t *testing.T) {
	half := table.New(table.Exp, 32)
	breaks := []int{1, 0, 1}
	for _, c := range []struct {
		x    uint64
		want int
	}{
		{0, 0}, {1, 0}, {1<<39 - 1, 0}, {1 << 39, 1}, {1<<40 - 1, 1}, {1 << 40, 1}, {1<<39 + 1<<40 - 1, 1}, {1<<39 + 1<<40, 2}, {1<<41 - 1, 2},
		{1 << 41, 0}, {1<<41 + 1<<39 - 1, 0}, {1<<41 + 1<<39, 1}, {1 << 62, 0}, {1 << 63, 0}, {1<<63 + 1<<39 - 1, 0}, {1<<63 + 1<<39, 1},
		{1<<63 - 1, 2}, {math.MaxUint64, 2}, {math.MaxUint64 - 1<<39 + 1, 2}, {math.MaxUint64 - 1<<39, 1},
	} {
		wantPick(t, half, breaks, c.x, c.want)
	}
	// Breaks without a weight of their own count as in Weight.
	wantPick(t, half, []int{-7, 1000, 64, -1}, 1<<40-1, 0)
	wantPick(t, half, []int{-7, 1000, 64, -1}, 1<<40, 1)
	wantPick(t, half, []int{-7, 1000, 64, -1}, 1<<40+1, 2)
	wantPick(t, half, []int{-7, 1000, 64, -1}, 1<<40+2, 3)
	wantPick(t, half, []int{-7, 1000, 64, -1}, 1<<41+1, 3)
	wantPick(t, half, []int{-7, 1000, 64, -1}, 1<<41+2, 0)
}

// P11.1: the remainder is taken of the whole number, not of one with a sign: the totals here are no powers of 2.
func TestPickOfGreatNumbers(t *testing.T) {
	ones := table.New(table.Exp, 256)
	for n := 1; n <= 20; n++ {
		breaks := slices.Repeat([]int{50}, n)
		for _, x := range draws {
			wantPick(t, ones, breaks, x, int(x%uint64(n)))
		}
	}
}

// P11.1: without breaks there is no index; with one, it is the only one.
func TestPickOfFew(t *testing.T) {
	everyTable(func(kind, base int) {
		l := table.New(kind, base)
		for _, x := range draws {
			wantPick(t, l, nil, x, -1)
			wantPick(t, l, []int{}, x, -1)
			wantPick(t, l, []int{int(x % 70)}, x, 0)
		}
	})
}

// P11.1: over a total, each index is picked as often as its weight, and the indices ascend.
func TestPickCounts(t *testing.T) {
	l := table.New(table.Exp, 256)
	breaks := []int{9, 10, 8, 64, 7, 9, 11, math.MaxInt}
	want := []int{16, 1, 256, 1, 4096, 16, 1, 1}
	total := l.Total(breaks)
	got, last := make([]int, len(breaks)), 0
	for x := range total {
		i := l.Pick(breaks, uint64(x))
		if i < last || i >= len(breaks) {
			t.Fatalf("Pick(%v, %d) is %d after %d", breaks, x, i, last)
		}
		got[i]++
		last = i
		wantPick(t, l, breaks, uint64(x+3*total), i)
	}
	if !slices.Equal(got, want) {
		t.Errorf("picked %v times, not %v", got, want)
	}
}

// P11.1: random tables and breaks, held against numbers without a bound.
func TestRandomCalls(t *testing.T) {
	r := recurrence(11)
	for range 4000 {
		kind, base := r.valid()
		l, m := table.New(kind, base), newModel(kind, base)
		breaks := r.list(12)
		total := m.total(breaks)
		if got := l.Total(breaks); int64(got) != total.Int64() {
			t.Fatalf("kind %d, base %d: Total(%v) is %d, not %d", kind, base, breaks, got, total)
		}
		for _, x := range []uint64{r.word(), r.word() >> 20, draws[r.below(len(draws))], total.Uint64(), total.Uint64() - 1} {
			if got, want := l.Pick(breaks, x), m.pick(breaks, x); got != want {
				t.Fatalf("kind %d, base %d: Pick(%v, %d) is %d, not %d", kind, base, breaks, x, got, want)
			}
		}
	}
}

// P11.1: Pick at each place at which the index changes, and one before it.
func TestPickAtItsEdges(t *testing.T) {
	r := recurrence(12)
	for range 1000 {
		kind, base := r.valid()
		l, breaks := table.New(kind, base), append(r.list(8), r.count())
		before, total := uint64(0), uint64(l.Total(breaks))
		for i, k := range breaks {
			after := before + uint64(l.Weight(k))
			wantPick(t, l, breaks, before, i)
			wantPick(t, l, breaks, after-1, i)
			wantPick(t, l, breaks, total+before, i)
			wantPick(t, l, breaks, total*5+after-1, i)
			before = after
		}
		if before != total {
			t.Fatalf("kind %d, base %d: Total(%v) is %d, not %d", kind, base, breaks, total, before)
		}
	}
}

// P11.1: tables have nothing to do with each other, and calls change neither them nor the breaks.
func TestTablesAreTheirOwn(t *testing.T) {
	half, third := table.New(table.Exp, 32), table.New(table.Exp, 48)
	cube := table.New(table.Poly, 1)
	breaks := []int{3, -1, 200, 0, 3}
	for range 3 {
		for _, c := range []struct {
			l                    *table.Table
			weight, total, index int
		}{
			{half, 137438953472, 2473901162497, 1}, {third, 40722652880, 2280468561313, 1}, {cube, 17179869184, 2233387188224, 1},
		} {
			if c.l.Weight(3) != c.weight || c.l.Total(breaks) != c.total || c.l.Pick(breaks, 1<<40) != c.index {
				t.Errorf("weight %d, total %d, index %d", c.l.Weight(3), c.l.Total(breaks), c.l.Pick(breaks, 1<<40))
			}
		}
	}
	if !slices.Equal(breaks, []int{3, -1, 200, 0, 3}) {
		t.Errorf("the breaks became %v", breaks)
	}
}

// P0 for this layer: whatever kind, base, breaks and number are passed, each call returns.
func TestWrongInputsReturn(t *testing.T) {
	for _, kind := range numbers {
		for _, base := range numbers {
			l := table.New(kind, base)
			if l == nil {
				t.Fatalf("New(%d, %d) is nil", kind, base)
			}
			table.Right(kind, base)
			for _, k := range numbers {
				if l.Weight(k) < 1 {
					t.Errorf("kind %d, base %d: Weight(%d) is %d", kind, base, k, l.Weight(k))
				}
			}
			for _, x := range draws {
				if i := l.Pick(numbers, x); i < 0 || i >= len(numbers) {
					t.Errorf("kind %d, base %d: Pick(numbers, %d) is %d", kind, base, x, i)
				}
				wantPick(t, l, nil, x, -1)
			}
		}
	}
}

// P0 for this layer: lists that are longer than they may be, of which the sums are no ints, or in 64 bits 0 again.
func TestLongListsReturn(t *testing.T) {
	breaks := make([]int, 1<<24)
	l := table.New(table.Poly, 1)
	for _, n := range []int{most + 1, 1 << 22, 1<<22 + 1, 1<<23 - 1, 1 << 23, 1<<23 + 1, 1<<24 - 1, 1 << 24} {
		if l.Total(breaks[:n]) < 1 {
			t.Errorf("the total of %d is %d", n, l.Total(breaks[:n]))
		}
		for _, x := range []uint64{0, 1 << 61, 1 << 63, math.MaxUint64} {
			if i := l.Pick(breaks[:n], x); i < 0 || i >= n {
				t.Errorf("Pick of %d, %d is %d", n, x, i)
			}
		}
	}
}
