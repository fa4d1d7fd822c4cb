package rng_test

import (
	"math"
	"math/big"
	"slices"
	"testing"

	"bradawl/rng"
)

// zeroSeed is the seed that the chapter puts in place of 0.
const zeroSeed = 88172645463325252

// numbers are such that a shift, a sign or a bound may go wrong with them.
var numbers = []uint64{
	0, 1, 2, 3, 5, 7, 10, 127, 128, 129, 1000, 8191, 8192, 1 << 17, 1 << 31, 1<<31 - 1, 1<<32 - 1, 1 << 32,
	1 << 46, 1 << 47, 1 << 50, 1 << 51, 1 << 56, 1 << 57, 1 << 62, 1<<63 - 1, 1 << 63, 1<<63 + 1,
	math.MaxUint64 - 1, math.MaxUint64, zeroSeed - 1, zeroSeed, zeroSeed + 1, 0x0123456789abcdef, 0xaaaaaaaaaaaaaaaa,
}

// bounds are what Below and Chance may be asked for.
var bounds = []int{
	math.MinInt, math.MinInt + 1, math.MinInt32, -1000, -2, -1, 0, 1, 2, 3, 4, 7, 10, 100, 1000, 1 << 20,
	math.MaxInt32, math.MaxInt32 + 1, 1 << 62, math.MaxInt - 1, math.MaxInt,
}

// A recurrence stands in for a random source, so that every run tests the same.
type recurrence uint32

// below returns a number from 0 to n - 1.
func (r *recurrence) below(n int) int {
	*r = *r*1664525 + 1013904223
	return int(*r>>8) % n
}

// word returns any number of 64 bits.
func (r *recurrence) word() uint64 {
	if r.below(8) == 0 {
		return numbers[r.below(len(numbers))]
	}
	return uint64(r.below(1<<22))<<42 ^ uint64(r.below(1<<22))<<21 ^ uint64(r.below(1<<22))
}

// list returns fewer than n words.
func (r *recurrence) list(n int) []uint64 {
	out := make([]uint64, r.below(n))
	for i := range out {
		out[i] = r.word()
	}
	return out
}

// power returns 2 to the power of n.
func power(n uint) *big.Int {
	return new(big.Int).Lsh(big.NewInt(1), n)
}

// after returns the number after x by the chapter's words: with times, divided by, and no more than 64 bits.
func after(x uint64) uint64 {
	n := new(big.Int).SetUint64(x)
	times := func(p uint) *big.Int {
		m := new(big.Int).Mul(n, power(p))
		return m.Mod(m, power(64))
	}
	n = new(big.Int).Xor(n, times(13))
	n = new(big.Int).Xor(n, new(big.Int).Div(n, power(7)))
	n = new(big.Int).Xor(n, times(17))
	return n.Uint64()
}

// A model is a stream by the chapter's words: all its numbers, as far as they matter.
type model struct {
	numbers []uint64
	drawn   int
}

// ahead is more than any stream here draws after its words, unless a test says so.
const ahead = 40

// newModel is New.
func newModel(words []uint64, seed uint64) *model {
	m := &model{numbers: slices.Clone(words)}
	if seed == 0 {
		seed = zeroSeed
	}
	for range ahead {
		seed = after(seed)
		m.numbers = append(m.numbers, seed)
	}
	return m
}

// next is Next.
func (m *model) next() uint64 {
	m.drawn++
	return m.numbers[m.drawn-1]
}

// below is Below.
func (m *model) below(n int) int {
	if n < 1 {
		return 0
	}
	x := new(big.Int).SetUint64(m.next())
	return int(x.Mod(x, big.NewInt(int64(n))).Int64())
}

// chance is Chance.
func (m *model) chance(n, of int) bool {
	x := m.below(of)
	return of >= 1 && x < n
}

// wantNext holds the next numbers of a stream against those that are told.
func wantNext(t *testing.T, s *rng.Stream, want ...uint64) {
	t.Helper()
	before := s.Drawn()
	for i, x := range want {
		if got := s.Next(); got != x {
			t.Errorf("number %d is %d, not %d", before+i+1, got, x)
		}
		if got := s.Drawn(); got != before+i+1 {
			t.Errorf("%d numbers are drawn, not %d", got, before+i+1)
		}
	}
}

func TestExample(t *testing.T) {
	wantNext(t, rng.New(nil, 1), 1082269761)
}

// P9.1: Step.
func TestStep(t *testing.T) {
	cases := []struct{ x, want uint64 }{
		{0, 0}, {1, 1082269761}, {2, 2164539522}, {3, 3246809283}, {127, 137429647295}, {128, 138530660481},
		{1082269761, 1152992998833853505}, {1152992998833853505, 11177516664432764457},
		{zeroSeed, 8748534153485358512}, {8748534153485358512, 3040900993826735515},
		{3040900993826735515, 3453997556048239312}, {3453997556048239312, 16431732851926010853},
		{1 << 46, 9876464901323489280}, {1 << 47, 1306185728937426944}, {1 << 50, 10449485831499415552}, {1 << 51, 2308112401213423616},
		{1 << 63, 9295429630892703744}, {1<<63 - 1, 9295429631958065088}, {math.MaxUint64, 1065361344},
		{0x0123456789abcdef, 4550888344034083252},
	}
	for _, c := range cases {
		if got := rng.Step(c.x); got != c.want {
			t.Errorf("Step(%d) is %d, not %d", c.x, got, c.want)
		}
	}
}

// P9.1: each bit of a number, any two of them, and any numbers are held against the chapter's words.
func TestStepByDefinition(t *testing.T) {
	check := func(x uint64) {
		t.Helper()
		if got, want := rng.Step(x), after(x); got != want {
			t.Errorf("Step(%d) is %d, not %d", x, got, want)
		}
	}
	for i := range 64 {
		for k := range 64 {
			check(1<<i | 1<<k)
			check(^uint64(1<<i | 1<<k))
		}
	}
	for _, x := range numbers {
		check(x)
	}
	r := recurrence(9)
	for range 5000 {
		check(r.word())
	}
}

// P9.1: many steps from the seed 1, and from the one in place of 0.
func TestManySteps(t *testing.T) {
	s := rng.New(nil, 1)
	for range 999999 {
		s.Next()
	}
	wantNext(t, s, 11684047761165304142)
	x := uint64(zeroSeed)
	for range 1000 {
		x = rng.Step(x)
	}
	if x != 1363160026601443621 {
		t.Errorf("the thousandth number is %d", x)
	}
}

// P9.1: the words come first, one by one; what follows them depends on the seed alone.
func TestNext(t *testing.T) {
	cases := []struct {
		name  string
		words []uint64
		seed  uint64
		want  []uint64
	}{
		{"no words", nil, 1, []uint64{1082269761, 1152992998833853505, 11177516664432764457, 17678023832001937445}},
		{"an empty list", []uint64{}, 2, []uint64{2164539522, 2305985997667575939, 3908431074842011666, 8836381484286226498}},
		{"no words, no seed", nil, 0, []uint64{8748534153485358512, 3040900993826735515, 3453997556048239312, 16431732851926010853}},
		{"the seed in place of none", nil, zeroSeed, []uint64{8748534153485358512, 3040900993826735515, 3453997556048239312, 16431732851926010853}},
		{"the greatest seed", nil, math.MaxUint64, []uint64{1065361344, 1152851127339773951, 508277857751731680, 3609534427018334203}},
		{"the greatest bit", nil, 1 << 63, []uint64{9295429630892703744, 9223934986808197120, 14520172546642411520, 9799832823517937664}},
		{"one word", []uint64{7}, 1, []uint64{7, 1082269761, 1152992998833853505}},
		{"one word, no seed", []uint64{7}, 0, []uint64{7, 8748534153485358512, 3040900993826735515}},
		{"the word 0", []uint64{0}, 3, []uint64{0, 3246809283, 3458978961873255618}},
		{"only zeros", []uint64{0, 0, 0}, 0, []uint64{0, 0, 0, 8748534153485358512}},
		{"the words are the seed", []uint64{1, 1}, 1, []uint64{1, 1, 1082269761, 1152992998833853505}},
		{"the words are what would follow", []uint64{1082269761, 1152992998833853505}, 1, []uint64{1082269761, 1152992998833853505, 1082269761, 1152992998833853505}},
		{"great words", []uint64{math.MaxUint64, 1 << 63, 1<<63 - 1}, 2, []uint64{math.MaxUint64, 1 << 63, 1<<63 - 1, 2164539522}},
		{"words in any order", []uint64{9, 3, 3, 0, 8, 3}, 2, []uint64{9, 3, 3, 0, 8, 3, 2164539522, 2305985997667575939}},
	}
	for _, c := range cases {
		t.Run(c.name, func(t *testing.T) { wantNext(t, rng.New(c.words, c.seed), c.want...) })
	}
}

// P9.1: Below returns the remainder, also of words that would be negative as an int.
func TestBelow(t *testing.T) {
	cases := []struct {
		word uint64
		n    int
		want int
	}{
		{0, 1, 0}, {1, 1, 0}, {math.MaxUint64, 1, 0}, {0, 2, 0}, {1, 2, 1}, {2, 2, 0}, {7, 2, 1},
		{10, 7, 3}, {6, 7, 6}, {7, 7, 0}, {8, 7, 1}, {999, 1000, 999}, {1000, 1000, 0}, {1001, 1000, 1},
		{math.MaxUint64, 2, 1}, {math.MaxUint64, 10, 5}, {math.MaxUint64, 7, 1}, {1 << 63, 10, 8}, {1 << 63, 3, 2}, {1 << 63, 7, 1},
		{1<<63 + 1, 1 << 20, 1}, {math.MaxUint64, 1 << 20, 1<<20 - 1}, {math.MaxUint64, 1 << 62, 1<<62 - 1},
		{math.MaxInt - 1, math.MaxInt, math.MaxInt - 1}, {math.MaxInt, math.MaxInt, 0}, {1 << 63, math.MaxInt, 1}, {math.MaxUint64, math.MaxInt, 1},
		{math.MaxUint64 - 1, math.MaxInt - 1, 2}, {5, math.MaxInt, 5},
	}
	for _, c := range cases {
		s := rng.New([]uint64{c.word, 77}, 1)
		if got := s.Below(c.n); got != c.want {
			t.Errorf("Below(%d) of %d is %d, not %d", c.n, c.word, got, c.want)
		}
		if s.Drawn() != 1 || s.Next() != 77 {
			t.Errorf("Below(%d) of %d drew another number of numbers", c.n, c.word)
		}
	}
}

// P9.1: without a number below n, nothing is drawn, neither a word nor one that follows.
func TestBelowNothing(t *testing.T) {
	for _, n := range []int{0, -1, -2, -7, -1000, math.MinInt32, math.MinInt + 1, math.MinInt} {
		s := rng.New([]uint64{5}, 1)
		for _, want := range []uint64{5, 1082269761, 1152992998833853505} {
			before := s.Drawn()
			if got := s.Below(n); got != 0 || s.Drawn() != before {
				t.Errorf("Below(%d) is %d, with %d drawn, not %d", n, got, s.Drawn(), before)
			}
			wantNext(t, s, want)
		}
	}
}

// P9.1: Below of numbers that follow the words.
func TestBelowAfterWords(t *testing.T) {
	s := rng.New([]uint64{12}, 1)
	want := []int{2, 1, 5, 7, 5}
	for i, x := range want {
		if got := s.Below(10); got != x || s.Drawn() != i+1 {
			t.Errorf("Below(10) is %d, not %d, with %d drawn", got, x, s.Drawn())
		}
	}
}

// P9.1: Chance draws one number, even if nothing depends on it.
func TestChance(t *testing.T) {
	cases := []struct {
		word  uint64
		n, of int
		want  bool
	}{
		{11, 2, 10, true}, {11, 1, 10, false}, {12, 2, 10, false}, {10, 1, 10, true}, {19, 9, 10, false}, {19, 10, 10, true},
		{0, 1, 1, true}, {5, 1, 1, true}, {math.MaxUint64, 1, 1, true}, {0, 1, 2, true}, {1, 1, 2, false},
		{0, 0, 1, false}, {0, 0, 10, false}, {10, 0, 10, false}, {0, -1, 10, false}, {0, math.MinInt, 10, false}, {7, -5, 1, false},
		{9, 11, 10, true}, {9, 1000, 10, true}, {9, math.MaxInt, 10, true}, {9, math.MaxInt, 1, true},
		{math.MaxUint64, 6, 10, true}, {math.MaxUint64, 5, 10, false}, {1 << 63, 8, 10, false}, {1 << 63, 9, 10, true},
		{999, 1000, 1000, true}, {999, 999, 1000, false}, {1999, 1000, 1000, true}, {500, 500, 1000, false}, {499, 500, 1000, true},
		{math.MaxInt - 1, math.MaxInt, math.MaxInt, true}, {math.MaxInt - 1, math.MaxInt - 1, math.MaxInt, false},
	}
	for _, c := range cases {
		s := rng.New([]uint64{c.word, 77}, 1)
		if got := s.Chance(c.n, c.of); got != c.want {
			t.Errorf("Chance(%d, %d) of %d is %v", c.n, c.of, c.word, got)
		}
		if s.Drawn() != 1 || s.Next() != 77 {
			t.Errorf("Chance(%d, %d) of %d drew another number of numbers", c.n, c.of, c.word)
		}
	}
}

// P9.1: no times at all is never, whatever n is, and draws nothing.
func TestChanceOfNothing(t *testing.T) {
	for _, of := range []int{0, -1, -3, -1000, math.MinInt + 1, math.MinInt} {
		for _, n := range bounds {
			s := rng.New([]uint64{0}, 1)
			if s.Chance(n, of) || s.Drawn() != 0 {
				t.Errorf("Chance(%d, %d) before the word, with %d drawn", n, of, s.Drawn())
			}
			wantNext(t, s, 0)
			if s.Chance(n, of) || s.Drawn() != 1 {
				t.Errorf("Chance(%d, %d) after the word, with %d drawn", n, of, s.Drawn())
			}
			wantNext(t, s, 1082269761)
		}
	}
}

// P9.1: all small numbers by the definition: n of so many words lead to true.
func TestChanceCounts(t *testing.T) {
	for of := 1; of <= 12; of++ {
		words := make([]uint64, 3*of)
		for i := range words {
			words[i] = uint64(i)
		}
		for n := -2; n <= of+2; n++ {
			s, count := rng.New(words, 1), 0
			for range words {
				if s.Chance(n, of) {
					count++
				}
			}
			if want := 3 * max(0, min(n, of)); count != want || s.Drawn() != len(words) {
				t.Errorf("Chance(%d, %d) is true %d times, not %d", n, of, count, want)
			}
		}
	}
}

// P9.1: nothing is drawn by New, Step or Drawn.
func TestDrawn(t *testing.T) {
	for _, words := range [][]uint64{nil, {}, {4}, {4, 5, 6}} {
		s := rng.New(words, 3)
		rng.Step(4)
		if s.Drawn() != 0 {
			t.Errorf("%d drawn at the beginning", s.Drawn())
		}
		for i := range 3 * (len(words) + 1) {
			switch i % 3 {
			case 0:
				s.Next()
			case 1:
				s.Below(1)
			case 2:
				s.Chance(0, 1)
			}
			if s.Drawn() != i+1 || s.Drawn() != i+1 {
				t.Errorf("%d drawn, not %d", s.Drawn(), i+1)
			}
		}
	}
}

// P9.1: the words are copied: the caller may change them, or append to them, and they are not changed.
func TestWordsCopied(t *testing.T) {
	mine := []uint64{1, 2, 3, 98, 99}
	before := rng.New(mine[:3], 1)
	before.Next()
	mine[1], mine[3] = 55, 66
	wantNext(t, before, 2, 3, 1082269761)
	later := rng.New(mine[:2], 1)
	_ = append(mine[:0], 7, 8, 9)
	wantNext(t, later, 1, 55, 1082269761)
	if !slices.Equal(mine, []uint64{7, 8, 9, 66, 99}) {
		t.Errorf("the caller's words became %v", mine)
	}
}

// P9.1: streams of the same words have nothing to do with each other.
func TestStreamsApart(t *testing.T) {
	words := []uint64{10, 20}
	a, b, c := rng.New(words, 1), rng.New(words, 1), rng.New(words, 2)
	wantNext(t, a, 10, 20, 1082269761)
	wantNext(t, b, 10)
	wantNext(t, c, 10, 20, 2164539522)
	wantNext(t, a, 1152992998833853505)
	wantNext(t, b, 20, 1082269761)
	wantNext(t, c, 2305985997667575939)
	if !slices.Equal(words, []uint64{10, 20}) {
		t.Errorf("the words became %v", words)
	}
}

// draw performs one call that may draw, and returns its result as a number.
func draw(s *rng.Stream, kind, n, of int) uint64 {
	switch kind {
	case 0:
		return s.Next()
	case 1:
		return uint64(s.Below(of))
	}
	if s.Chance(n, of) {
		return 1
	}
	return 0
}

// drawModel performs the same call on a model.
func drawModel(m *model, kind, n, of int) uint64 {
	switch kind {
	case 0:
		return m.next()
	case 1:
		return uint64(m.below(of))
	}
	if m.chance(n, of) {
		return 1
	}
	return 0
}

// call returns any call that may draw.
func (r *recurrence) call() (kind, n, of int) {
	if r.below(2) == 0 {
		return r.below(3), r.below(15) - 2, r.below(14) - 1
	}
	return r.below(3), bounds[r.below(len(bounds))], bounds[r.below(len(bounds))]
}

// P9.1: streams are held against the definitions after each of many calls.
func TestByDefinition(t *testing.T) {
	r := recurrence(1)
	for range 1500 {
		words, seed := r.list(12), r.word()
		if r.below(5) == 0 {
			seed = 0
		}
		s, m := rng.New(words, seed), newModel(words, seed)
		for range ahead {
			kind, n, of := r.call()
			got, want := draw(s, kind, n, of), drawModel(m, kind, n, of)
			if got != want || s.Drawn() != m.drawn {
				t.Fatalf("words %v, seed %d: call %d of %d, %d is %d, not %d; %d drawn, not %d", words, seed, kind, n, of, got, want, s.Drawn(), m.drawn)
			}
		}
	}
}

// P9.2: two streams yield the same as long as their words agree, and not only by chance: the first other word tells them apart.
func TestAgreeingWords(t *testing.T) {
	r := recurrence(2)
	for range 1500 {
		words, seed := append(r.list(20), r.word()), r.word()
		agree := r.below(len(words))
		// Behind agree words, the other list has others, and is longer or shorter.
		others := append(slices.Clone(words[:agree]), words[agree]+1)
		others = append(others, r.list(20)...)
		a, b := rng.New(words, seed), rng.New(others, seed)
		for a.Drawn() < agree {
			kind, n, of := r.call()
			if x, y := draw(a, kind, n, of), draw(b, kind, n, of); x != y || a.Drawn() != b.Drawn() {
				t.Fatalf("words %v and %v, %d drawn: call %d of %d, %d is %d and %d", words, others, a.Drawn(), kind, n, of, x, y)
			}
		}
		if x, y := a.Next(), b.Next(); x+1 != y {
			t.Fatalf("words %v and %v: number %d is %d and %d", words, others, a.Drawn(), x, y)
		}
	}
}

// P9.2: words that are missing in one of two streams matter only where they would be drawn.
func TestMissingWords(t *testing.T) {
	r := recurrence(4)
	for range 500 {
		words, seed := append(r.list(20), r.word()), r.word()
		agree := r.below(len(words))
		a, b := rng.New(words, seed), rng.New(words[:agree], seed)
		for a.Drawn() < agree {
			kind, n, of := r.call()
			if x, y := draw(a, kind, n, of), draw(b, kind, n, of); x != y || a.Drawn() != b.Drawn() {
				t.Fatalf("words %v, and only %d: call %d of %d, %d is %d and %d", words, agree, kind, n, of, x, y)
			}
		}
		wantNext(t, a, words[agree])
		wantNext(t, b, newModel(nil, seed).next())
	}
}

// P9.2: streams of the same words and the same seed yield the same for ever, whatever else is drawn between.
func TestSameStreams(t *testing.T) {
	r := recurrence(3)
	for range 300 {
		words, seed := r.list(9), r.word()
		a, b, other := rng.New(words, seed), rng.New(slices.Clone(words), seed), rng.New(words, seed+1)
		for range 60 {
			kind, n, of := r.call()
			x := draw(a, kind, n, of)
			draw(other, r.below(3), of, n)
			if y := draw(b, kind, n, of); x != y || a.Drawn() != b.Drawn() {
				t.Fatalf("words %v, seed %d: %d and %d", words, seed, x, y)
			}
		}
	}
}

// P9.2: 0 and the seed in its place are the same seed.
func TestSeedZero(t *testing.T) {
	for _, words := range [][]uint64{nil, {0}, {1, 2, 3}} {
		a, b := rng.New(words, 0), rng.New(words, zeroSeed)
		for range 50 {
			if x, y := a.Next(), b.Next(); x != y {
				t.Fatalf("words %v: %d and %d", words, x, y)
			}
		}
	}
}

// P0 for this layer: whatever is passed, before and after the words are drawn, each call returns; what Below returns is within its bounds.
func TestWrongInputsReturn(t *testing.T) {
	for _, words := range [][]uint64{nil, {}, {0}, numbers} {
		for _, seed := range numbers {
			s := rng.New(words, seed)
			for _, of := range bounds {
				for _, n := range bounds {
					s.Chance(n, of)
				}
				if x := s.Below(of); x < 0 || x > max(0, of-1) {
					t.Fatalf("Below(%d) is %d", of, x)
				}
				s.Next()
				rng.Step(seed + uint64(of))
			}
			if s.Drawn() < len(bounds) {
				t.Fatalf("%d drawn", s.Drawn())
			}
		}
	}
}
