package dimacs_test

import (
	"errors"
	"math"
	"reflect"
	"regexp"
	"slices"
	"strconv"
	"strings"
	"testing"

	"bradawl/api"
	"bradawl/cnf"
	"bradawl/dimacs"
)

// A recurrence stands in for a random source, so that every run tests the same.
type recurrence uint32

// below returns a number from 0 to n - 1.
func (r *recurrence) below(n int) int {
	*r = *r*1664525 + 1013904223
	return int(*r>>8) % n
}

// equal reports whether both formulas have the same clauses, literal by literal.
func equal(f, g api.Formula) bool {
	return f.Vars == g.Vars && slices.EqualFunc(f.Clauses, g.Clauses, slices.Equal[[]int])
}

// zero reports whether a formula is the zero one.
func zero(f api.Formula) bool {
	return f.Vars == 0 && f.Clauses == nil
}

// formula returns one of so many variables.
func formula(vars int, clauses ...[]int) api.Formula {
	return api.Formula{Vars: vars, Clauses: clauses}
}

// wantFormula tests that a text has a formula.
func wantFormula(t *testing.T, s string, want api.Formula) {
	t.Helper()
	f, err := dimacs.Parse(s)
	if err != nil || !equal(f, want) {
		t.Errorf("Parse(%.80q) is %v, %v; not %v", s, brief(f), err, brief(want))
	}
}

// wantFault tests that a text has a fault.
func wantFault(t *testing.T, s string, line int, want api.Errno) {
	t.Helper()
	f, err := dimacs.Parse(s)
	if err == nil {
		t.Errorf("Parse(%.80q) has no fault, instead of %v in line %d", s, want, line)
		return
	}
	fault, ok := err.(*dimacs.Fault)
	if !ok || fault == nil {
		t.Errorf("Parse(%.80q): %T is no *Fault", s, err)
		return
	}
	if *fault != (dimacs.Fault{Line: line, Err: want}) {
		t.Errorf("Parse(%.80q) is %v; not %v in line %d", s, err, want, line)
	}
	if !zero(f) {
		t.Errorf("Parse(%.80q) has a formula beside its fault: %v", s, brief(f))
	}
}

// brief shortens a formula for a report.
func brief(f api.Formula) api.Formula {
	return api.Formula{Vars: f.Vars, Clauses: f.Clauses[:min(len(f.Clauses), 20)]}
}

func TestFault(t *testing.T) {
	cases := []struct {
		f    dimacs.Fault
		want string
	}{
		{dimacs.Fault{Line: 1, Err: api.ErrHeader}, "line 1: error 2"},
		{dimacs.Fault{Line: 5, Err: api.ErrWord}, "line 5: error 3"},
		{dimacs.Fault{Line: 120, Err: api.ErrOption}, "line 120: error 12"},
		{dimacs.Fault{}, "line 0: error 0"},
		{dimacs.Fault{Line: -7, Err: api.ErrArg}, "line -7: error 1"},
		{dimacs.Fault{Line: math.MaxInt, Err: -3}, "line 9223372036854775807: error -3"},
		{dimacs.Fault{Line: math.MinInt, Err: math.MaxInt}, "line -9223372036854775808: error 9223372036854775807"},
	}
	for _, c := range cases {
		kept := c.f
		if got := c.f.Error(); got != c.want {
			t.Errorf("Error of %#v is %q", kept, got)
		}
		got := c.f.Unwrap()
		if errno, ok := got.(api.Errno); !ok || errno != kept.Err {
			t.Errorf("Unwrap of %#v is %#v", kept, got)
		}
		if c.f != kept {
			t.Errorf("%#v was changed", kept)
		}
	}
}

// A fault is found among errors by its number, and by its type.
func TestFaultIsAndAs(t *testing.T) {
	_, err := dimacs.Parse("p cnf 1 1\n\n2 0\n")
	if !errors.Is(err, api.ErrRange) || errors.Is(err, api.ErrWord) || errors.Is(err, api.OK) {
		t.Errorf("errors.Is of %v", err)
	}
	var fault *dimacs.Fault
	if !errors.As(err, &fault) || fault.Line != 3 || fault.Err != api.ErrRange {
		t.Errorf("errors.As of %v", err)
	}
	var errno api.Errno
	if !errors.As(err, &errno) || errno != api.ErrRange {
		t.Errorf("errors.As of %v: %v", err, errno)
	}
	if err.Error() != "line 3: error 4" {
		t.Error(err)
	}
}

func TestParseOrdinary(t *testing.T) {
	cases := []struct {
		s    string
		want api.Formula
	}{
		{"p cnf 1 2\n1 0 -1 0", formula(1, []int{1}, []int{-1})},
		{"p cnf 1 1\n1 0\n", formula(1, []int{1})},
		{"p cnf 3 2\n1 -2 0\n3 2 -1 0\n", formula(3, []int{1, -2}, []int{3, 2, -1})},
		{"c a remark\np cnf 3 2\nc another\n1 -2 0\nc\n3 0\nc the end\n", formula(3, []int{1, -2}, []int{3})},
		{"p cnf 3 2\n1\n-2\n0\n3\n0", formula(3, []int{1, -2}, []int{3})},
		{"p cnf 3 3\n1 -2 0 3 0 -3\n2 0", formula(3, []int{1, -2}, []int{3}, []int{-3, 2})},
		// Literals are kept as they are, in their order, with duplicates.
		{"p cnf 4 3\n4 -1 4 4 0 1 -1 0 2 2 0", formula(4, []int{4, -1, 4, 4}, []int{1, -1}, []int{2, 2})},
		{"p cnf 2 2\n1 2 0\n1 2 0\n", formula(2, []int{1, 2}, []int{1, 2})},
	}
	for _, c := range cases {
		wantFormula(t, c.s, c.want)
	}
}

func TestParseNoClauses(t *testing.T) {
	for _, s := range []string{"p cnf 0 0", "p cnf 0 0\n", "\n\nc\np cnf 0 0\n\nc\n", "\tp\tcnf 0\t0 "} {
		wantFormula(t, s, api.Formula{})
	}
	for _, s := range []string{"p cnf 7 0", "p cnf 7 0\n", "p cnf 7 0\n\n  \nc 1 0\n"} {
		wantFormula(t, s, formula(7))
	}
	wantFault(t, "p cnf 7 0\n0", 2, api.ErrMany)
	wantFault(t, "p cnf 7 0\n\n1 0", 3, api.ErrMany)
	wantFault(t, "p cnf 0 0\n1 0", 2, api.ErrMany)
}

func TestParseEmptyClauses(t *testing.T) {
	wantFormula(t, "p cnf 0 1\n0", formula(0, nil))
	wantFormula(t, "p cnf 0 3\n0 0\n0\n", formula(0, nil, nil, nil))
	wantFormula(t, "p cnf 2 4\n0\n1 0 0\n-2 0\n", formula(2, nil, []int{1}, nil, []int{-2}))
	wantFormula(t, "p cnf 2 2\n1 2\n0\n0\n", formula(2, []int{1, 2}, nil))
	wantFault(t, "p cnf 0 1\n0 0", 2, api.ErrMany)
	wantFault(t, "p cnf 0 2\n0", 2, api.ErrFew)
}

// Lines without words, and those whose first word begins with c, have no effect but on the numbers of lines.
func TestParseSkippedLines(t *testing.T) {
	skipped := []string{"", " ", "\t", " \t \t  ", "c", " c", "\tc", "c ", "c 1 0", "common", "c\t2 0", " \t c p cnf 9 9", "cnf", "c0", "c-1 0", "cc", "c\r", "c\x00\xff", "c é 0"}
	want := formula(3, []int{1, -2}, []int{3})
	for _, x := range skipped {
		wantFormula(t, x+"\np cnf 3 2\n1 -2 0\n3 0\n", want)
		wantFormula(t, "p cnf 3 2\n"+x+"\n1 -2 0\n3 0\n", want)
		wantFormula(t, "p cnf 3 2\n1 -2\n"+x+"\n0 3\n"+x+"\n0", want)
		wantFormula(t, "p cnf 3 2\n1 -2 0\n3 0\n"+x, want)
		wantFormula(t, "p cnf 3 2\n1 -2 0\n3 0\n"+x+"\n"+x+"\n", want)
		wantFault(t, x, 1, api.ErrHeader)
		wantFault(t, x+"\n"+x, 2, api.ErrHeader)
		wantFault(t, x+"\n"+x+"\n1 0", 3, api.ErrHeader)
		wantFault(t, "p cnf 3 1\n"+x+"\n"+x+"\n4 0", 4, api.ErrRange)
		wantFault(t, "p cnf 3 1\n1\n"+x+"\n"+x, 4, api.ErrOpen)
		wantFault(t, "p cnf 3 1\n"+x+"\n"+x+"\n", 4, api.ErrFew)
	}
	// Words that only look as if they began with c do not let the line be skipped.
	for _, x := range []string{"C", "C 1", "-c", "#c", "1c", "\rc", "\x00c", "\u00a0c", "ċ", "с"} {
		wantFault(t, x+"\np cnf 3 1\n1 0\n", 1, api.ErrHeader)
		wantFault(t, "p cnf 3 1\n"+x+"\n1 0\n", 2, api.ErrWord)
	}
	// Only the first word of a line lets it be skipped.
	wantFault(t, "p cnf 3 1\n1 c 0\n", 2, api.ErrWord)
	wantFault(t, "p cnf 3 1\n1 0 c\n", 2, api.ErrWord)
	wantFault(t, "p cnf 3 1 c\n1 0\n", 1, api.ErrHeader)
}

func TestParseBlanks(t *testing.T) {
	want := formula(3, []int{1, -2}, []int{3})
	for _, s := range []string{
		"p cnf 3 2\n1 -2 0 3 0",
		"  p  cnf   3 2  \n   1     -2 0  3 0    \n",
		"\tp\tcnf\t3\t2\t\n\t1\t-2\t0\t3\t0\t\n",
		" \t p\t cnf \t3 \t 2\t \n\t \t1 \t-2\t \t0 \t3\t0 \t\n \t",
		"p cnf 3 2 \n1 -2 \n 0\t\n\t3 0\t",
	} {
		wantFormula(t, s, want)
	}
	// Nothing else separates words.
	for _, x := range []string{"\r", "\v", "\f", "\x00", "\u00a0", "\u2003", "\u3000", "\u0085", ",", ".", "\xa0", "\x85", "\xc2", "\xff"} {
		wantFault(t, "p cnf 3 2\n1"+x+"-2 0 3 0", 2, api.ErrWord)
		wantFault(t, "p cnf 3 2\n1 -2 0 3 0"+x, 2, api.ErrWord)
		wantFault(t, "p cnf 3 2\n"+x+"\n1 -2 0 3 0", 2, api.ErrWord)
		wantFault(t, "p cnf 3 2\n1 -2 0 3 0\n"+x, 3, api.ErrWord)
		wantFault(t, "p"+x+"cnf 3 2\n1 -2 0 3 0", 1, api.ErrHeader)
		wantFault(t, "p cnf 3"+x+"2\n1 -2 0 3 0", 1, api.ErrHeader)
		wantFault(t, "p cnf 3 2"+x+"\n1 -2 0 3 0", 1, api.ErrHeader)
		wantFault(t, x+"p cnf 3 2\n1 -2 0 3 0", 1, api.ErrHeader)
		wantFault(t, x, 1, api.ErrHeader)
	}
}

func TestParseLines(t *testing.T) {
	// Only bytes 10 end lines, and what follows the last of them is a line, too.
	wantFault(t, "", 1, api.ErrHeader)
	wantFault(t, "\n", 2, api.ErrHeader)
	wantFault(t, "c\n\n", 3, api.ErrHeader)
	wantFault(t, "c\n\nc", 3, api.ErrHeader)
	wantFault(t, strings.Repeat("\n", 1000), 1001, api.ErrHeader)
	wantFault(t, "p cnf 1 1", 1, api.ErrFew)
	wantFault(t, "p cnf 1 1\n", 2, api.ErrFew)
	wantFault(t, "p cnf 1 1\n\n\n", 4, api.ErrFew)
	wantFault(t, "p cnf 1 1\n1", 2, api.ErrOpen)
	wantFault(t, "p cnf 1 1\n1\n\n", 4, api.ErrOpen)
	wantFault(t, "p cnf 1 1\r\n1 0\r\n", 1, api.ErrHeader)
	wantFault(t, "p cnf 1 1\n1 0\r\n", 2, api.ErrWord)
	wantFault(t, "c\rp cnf 1 1\r1 0", 1, api.ErrHeader)
	wantFormula(t, "c\rp cnf 9 9\r\np cnf 1 1\n1 0", formula(1, []int{1}))
}

func TestParseHeader(t *testing.T) {
	for _, s := range []string{
		"p", "p cnf", "p cnf 1", "p cnf 1 1 1", "p cnf 1 1 0", "p cnf 1 1 x", "p cnf 1 1 c", "p cnf 1 1 1 1 1 1 1",
		"1 0", "0", "x", "x p 1 1", " p cnf", "q cnf 1 1", "P cnf 1 1", "p CNF 1 1", "p Cnf 1 1", "p cnfs 1 1", "p cn 1 1", "pp cnf 1 1", "pcnf 1 1", "p dnf 1 1", "pcnf11",
		"p p cnf 1 1", "p cnf cnf 1 1", "p cnf p 1", "p 1 1 cnf", "p cnf 1 1p", "p cnf x 1", "p cnf 1 x",
		"p cnf -1 1", "p cnf 1 -1", "p cnf -0 1", "p cnf 1 -0", "p cnf +1 1", "p cnf 1 +1", "p cnf - 1", "p cnf 1 -",
		"p cnf 01 1", "p cnf 1 01", "p cnf 00 1", "p cnf 1 00", "p cnf 000000001 1", "p cnf 1 000000000",
		"p cnf 1.0 1", "p cnf 1 1e0", "p cnf 0x1 1", "p cnf 1_0 1", "p cnf 1, 1", "p cnf ١ 1", "p cnf 1 １", "p cnf \xff 1",
		"p cnf 1000000000 1", "p cnf 1 1000000000", "p cnf 9999999999 1", "p cnf 18446744073709551617 1", "p cnf 1 18446744073709551617", "p cnf 1 99999999999999999999999999999999",
		"%", "\ufeffp cnf 1 1", "p cnf", "p\x00 cnf 1 1",
	} {
		wantFault(t, s, 1, api.ErrHeader)
		wantFault(t, s+"\n1 0\n", 1, api.ErrHeader)
		wantFault(t, s+"\np cnf 1 1\n1 0\n", 1, api.ErrHeader)
		wantFault(t, "c\n\n \t "+s+" \np cnf 1 1\n1 0\n", 3, api.ErrHeader)
	}
	// A header comes once.
	wantFault(t, "p cnf 1 1\np cnf 1 1\n1 0\n", 2, api.ErrWord)
	wantFault(t, "p cnf 1 1\n1 0\np cnf 1 1\n", 3, api.ErrWord)
}

func TestParseHeaderLimits(t *testing.T) {
	wantFormula(t, "p cnf 100000 1\n100000 -100000 0", formula(100000, []int{100000, -100000}))
	wantFormula(t, "p cnf 100000 0", formula(100000))
	wantFormula(t, "p cnf 99999 0", formula(99999))
	for _, s := range []string{
		"p cnf 100001 0", "p cnf 100001 1", "p cnf 999999999 0", "p cnf 1 200001", "p cnf 0 200001", "p cnf 1 999999999",
		"p cnf 100001 200001", "p cnf 999999999 999999999",
	} {
		wantFault(t, s, 1, api.ErrLimit)
		// It is found ahead of what is wrong further on.
		wantFault(t, s+"\nx\n", 1, api.ErrLimit)
		wantFault(t, "c\n\n"+s+"\n1 0", 3, api.ErrLimit)
	}
	wantFault(t, "p cnf 1 200000", 1, api.ErrFew)
	wantFault(t, "p cnf 100000 200000\n", 2, api.ErrFew)
	// What is no header is none ahead of its limits.
	for _, s := range []string{"p cnf 100001 0 0", "p cnf 100001 x", "p cnf 100001", "p cnf 100001 01", "p cnf 1000000000 200001", "p cnf 01 200001", "x cnf 100001 200001"} {
		wantFault(t, s, 1, api.ErrHeader)
	}
}

func TestParseWords(t *testing.T) {
	for _, x := range []string{
		"-0", "-", "--1", "-00", "-01", "+1", "+0", "1-", "1-1", "-1-", "00", "01", "001", "000000000", "000000001", "0-", "-1.", "1.0", "1e1", "0x1", "1_0", "1,", "'1'",
		"1000000000", "-1000000000", "0000000000", "-0000000000", "1234567890", "-1234567890", "18446744073709551617", "-18446744073709551615", "99999999999999999999999999",
		"x", "p", "%", "a0", "0a", "1a", "-a", "-1a", "\x00", "\xff", "1\xff", "-\xff1", "١", "１", "−1", "1²", "é", "\U0001f600", strings.Repeat("1", 5000), "-" + strings.Repeat("0", 5000),
	} {
		wantFault(t, "p cnf 3 2\n"+x, 2, api.ErrWord)
		wantFault(t, "p cnf 3 2\n"+x+" 0", 2, api.ErrWord)
		wantFault(t, "p cnf 3 2\n1 0\n\n"+x+"\t0 0 0 0", 4, api.ErrWord)
		wantFault(t, "p cnf 3 2\n1 0 2 "+x+"\n", 2, api.ErrWord)
		wantFault(t, "p cnf 3 2\n1 0 2 0\n\t"+x, 3, api.ErrWord)
	}
	for _, x := range []string{"100000000", "-100000000", "999999999", "-999999999", "123456789"} {
		wantFault(t, "p cnf 3 2\n\n1 "+x+" 0", 3, api.ErrRange)
	}
}

func TestParseRange(t *testing.T) {
	wantFormula(t, "p cnf 12 1\n12 -12 10 -9 0", formula(12, []int{12, -12, 10, -9}))
	for _, x := range []string{"13", "-13", "20", "-20", "100", "120", "-99999", "100000", "-100000", "100001"} {
		wantFault(t, "p cnf 12 1\n1\n2 "+x+" 0\n", 3, api.ErrRange)
	}
	wantFault(t, "p cnf 0 1\n1 0", 2, api.ErrRange)
	wantFault(t, "p cnf 0 1\n-1 0", 2, api.ErrRange)
	wantFault(t, "p cnf 100000 1\n100001 0", 2, api.ErrRange)
	wantFault(t, "p cnf 100000 1\n-100001 0", 2, api.ErrRange)
	wantFault(t, "p cnf 99999 1\n100000 0", 2, api.ErrRange)
}

func TestParseManyFewOpen(t *testing.T) {
	wantFault(t, "p cnf 1 1\n1 0\n\n1", 4, api.ErrMany)
	wantFault(t, "p cnf 1 1\n1 0 1 0", 2, api.ErrMany)
	wantFault(t, "p cnf 1 1\n1 0\n0", 3, api.ErrMany)
	wantFault(t, "p cnf 3 2\n1 0 2 0\n3 0\n", 3, api.ErrMany)
	wantFault(t, "p cnf 1 2\n1 0\n", 3, api.ErrFew)
	wantFault(t, "p cnf 1 2\n1 0", 2, api.ErrFew)
	wantFault(t, "p cnf 3 2\n1 0 2", 2, api.ErrOpen)
	wantFault(t, "p cnf 3 2\n1 0\n2 3\n-1\n", 5, api.ErrOpen)
	// A clause that is not ended comes ahead of clauses that are missing.
	wantFault(t, "p cnf 3 9\n1 0 2", 2, api.ErrOpen)
	wantFault(t, "p cnf 3 9\n-1", 2, api.ErrOpen)
}

// At one word the faults come in the chapter's order; at several words the first word counts.
func TestParseFirstFault(t *testing.T) {
	wantFault(t, "p cnf 1 0\nx", 2, api.ErrWord)
	wantFault(t, "p cnf 1 1\n1 0\n-0", 3, api.ErrWord)
	wantFault(t, "p cnf 1 1\n1 0\n1000000000", 3, api.ErrWord)
	wantFault(t, "p cnf 1 1\n1 0\n2", 3, api.ErrMany)
	wantFault(t, "p cnf 1 0\n-9", 2, api.ErrMany)
	wantFault(t, "p cnf 1 1\n2 x", 2, api.ErrRange)
	wantFault(t, "p cnf 1 1\nx 2", 2, api.ErrWord)
	wantFault(t, "p cnf 1 1\n1 0 1 x", 2, api.ErrMany)
	wantFault(t, "p cnf 1 1\n2\nx", 2, api.ErrRange)
	wantFault(t, "p cnf 1 3\n1 0\nx", 3, api.ErrWord)
	wantFault(t, "p cnf 1 3\n1\n2", 3, api.ErrRange)
}

func TestParseClauseLimit(t *testing.T) {
	empty := strings.Repeat("0\n", api.MaxClauses)
	f, err := dimacs.Parse("p cnf 0 200000\n" + empty)
	if err != nil || len(f.Clauses) != api.MaxClauses || cnf.Lits(f) != 0 || !cnf.Right(f) {
		t.Errorf("as many clauses as permitted: %d, %v", len(f.Clauses), err)
	}
	wantFault(t, "p cnf 0 200000\n"+empty+"0", api.MaxClauses+2, api.ErrMany)
	wantFault(t, "p cnf 0 200000\n"+empty[2:], api.MaxClauses+1, api.ErrFew)
	wantFault(t, "p cnf 0 200001\n"+empty+"0", 1, api.ErrLimit)
}

func TestParseLiteralLimit(t *testing.T) {
	row := strings.Repeat("1 -2 ", api.MaxLits/2)
	f, err := dimacs.Parse("p cnf 2 1\n" + row + "0")
	if err != nil || len(f.Clauses) != 1 || len(f.Clauses[0]) != api.MaxLits || !cnf.Right(f) {
		t.Errorf("as many literals as permitted, in one clause: %v", err)
	}
	wantFault(t, "p cnf 2 1\n"+row+"\n1 0", 3, api.ErrLimit)
	wantFault(t, "p cnf 2 1\n"+row+"1", 2, api.ErrLimit)
	wantFault(t, "p cnf 2 1\n"+row, 2, api.ErrOpen)
	wantFault(t, "p cnf 2 1\n"+row+"\n3", 3, api.ErrRange)
	wantFault(t, "p cnf 2 1\n"+row+"\nx", 3, api.ErrWord)
	wantFault(t, "p cnf 2 1\n"+row+"0\n1", 3, api.ErrMany)
	wantFault(t, "p cnf 2 2\n"+row+"0\n1 0", 3, api.ErrLimit)
	wantFault(t, "p cnf 2 2\n"+row+"0\n", 3, api.ErrFew)

	// The literals of all clauses count together; ends of clauses do not.
	many := strings.Repeat("1 2 -1 -2 1 0\n", api.MaxClauses-1)
	f, err = dimacs.Parse("p cnf 2 200000\n" + many + "1 1 1 1 1 0\n")
	if err != nil || len(f.Clauses) != api.MaxClauses || cnf.Lits(f) != api.MaxLits || !cnf.Right(f) {
		t.Errorf("as many literals as permitted, in as many clauses: %v", err)
	}
	wantFault(t, "p cnf 2 200000\n"+many+"1 1 1 1 1\n1 0\n", api.MaxClauses+2, api.ErrLimit)
}

// What is appended to one clause, or changed in it, is seen in no other clause, and in no other formula.
func TestParseGivesItsOwn(t *testing.T) {
	s := "p cnf 3 4\n1 2 0 0 3 -1 2 0 -3 0"
	want := formula(3, []int{1, 2}, nil, []int{3, -1, 2}, []int{-3})
	f, err := dimacs.Parse(s)
	if err != nil {
		t.Fatal(err)
	}
	for _, c := range f.Clauses {
		_ = append(c, 77, 77, 77)
	}
	if !equal(f, want) {
		t.Errorf("after appending: %v", f)
	}
	for _, c := range f.Clauses {
		for i := range c {
			c[i] = 77
		}
	}
	wantFormula(t, s, want)
}

func TestPrint(t *testing.T) {
	cases := []struct {
		f    api.Formula
		want string
	}{
		{api.Formula{}, "p cnf 0 0\n"},
		{api.Formula{Clauses: [][]int{}}, "p cnf 0 0\n"},
		{formula(5), "p cnf 5 0\n"},
		{formula(100000), "p cnf 100000 0\n"},
		{formula(0, nil), "p cnf 0 1\n0\n"},
		{formula(2, []int{}, []int{2, -1}), "p cnf 2 2\n0\n2 -1 0\n"},
		{formula(1, []int{1}, []int{-1}), "p cnf 1 2\n1 0\n-1 0\n"},
		{formula(12, []int{12, -12, 10, 10}, nil, nil, []int{-1, 1, -1}), "p cnf 12 4\n12 -12 10 10 0\n0\n0\n-1 1 -1 0\n"},
		{formula(100000, []int{-100000, 99999, 100000}), "p cnf 100000 1\n-100000 99999 100000 0\n"},
	}
	for _, c := range cases {
		kept := cnf.Copy(c.f)
		if got := dimacs.Print(c.f); got != c.want {
			t.Errorf("Print(%v) is %q", c.f, got)
		}
		if !equal(c.f, kept) {
			t.Errorf("%v was changed", kept)
		}
		wantFormula(t, c.want, c.f)
	}
}

// P3.2: a text of a formula has that formula, whatever the formula is, if it is valid.
func TestPrintedIsRestored(t *testing.T) {
	var r recurrence
	for range 3000 {
		f := api.Formula{Vars: r.below(5) * r.below(5) * r.below(5000)}
		for range r.below(9) {
			var c []int
			for range r.below(7) * min(1, f.Vars) {
				c = append(c, (1+r.below(f.Vars))*(1-2*r.below(2)))
			}
			f.Clauses = append(f.Clauses, c)
		}
		if !cnf.Right(f) {
			t.Fatalf("%v is not valid", f)
		}
		wantFormula(t, dimacs.Print(f), f)
	}
}

func TestPrintedIsRestoredAtLimits(t *testing.T) {
	vars := make([]int, 2*api.MaxVars)
	for i := range vars {
		vars[i] = 1 + i/2
		if i%2 == 1 {
			vars[i] = -vars[i]
		}
	}
	for _, f := range []api.Formula{
		formula(api.MaxVars, vars),
		formula(api.MaxVars, slices.Repeat(vars, 5), nil),
		formula(api.MaxVars, slices.Repeat([][]int{{api.MaxVars, -api.MaxVars, 1, -1, 50000}}, api.MaxClauses)...),
		formula(0, slices.Repeat([][]int{nil}, api.MaxClauses)...),
	} {
		if !cnf.Right(f) {
			t.Fatal("not valid")
		}
		wantFormula(t, dimacs.Print(f), f)
	}
}

// The words of the definitions, as patterns.
var (
	number  = regexp.MustCompile(`^(0|[1-9][0-9]{0,8})$`)
	literal = regexp.MustCompile(`^-?[1-9][0-9]{0,8}$`)
)

// reference tells by the definitions alone what Parse returns for a text of few clauses.
func reference(s string) (api.Formula, dimacs.Fault) {
	lines := strings.Split(s, "\n")
	var f api.Formula
	var open []int
	begun, stated := false, 0
	for i, line := range lines {
		words := strings.FieldsFunc(line, func(c rune) bool { return c == 32 || c == 9 })
		fault := func(e api.Errno) (api.Formula, dimacs.Fault) { return api.Formula{}, dimacs.Fault{Line: i + 1, Err: e} }
		if len(words) == 0 || words[0][0] == 'c' {
			continue
		}
		if !begun {
			if len(words) != 4 || words[0] != "p" || words[1] != "cnf" || !number.MatchString(words[2]) || !number.MatchString(words[3]) {
				return fault(api.ErrHeader)
			}
			begun = true
			f.Vars, _ = strconv.Atoi(words[2])
			stated, _ = strconv.Atoi(words[3])
			if f.Vars > 100000 || stated > 200000 {
				return fault(api.ErrLimit)
			}
			continue
		}
		for _, w := range words {
			n, _ := strconv.Atoi(w)
			if w != "0" && !literal.MatchString(w) {
				return fault(api.ErrWord)
			}
			if len(f.Clauses) == stated {
				return fault(api.ErrMany)
			}
			if n > f.Vars || -n > f.Vars {
				return fault(api.ErrRange)
			}
			if n == 0 {
				f.Clauses = append(f.Clauses, open)
				open = nil
			} else {
				open = append(open, n)
			}
		}
	}
	last := dimacs.Fault{Line: len(lines)}
	switch {
	case !begun:
		last.Err = api.ErrHeader
	case len(open) > 0:
		last.Err = api.ErrOpen
	case len(f.Clauses) < stated:
		last.Err = api.ErrFew
	default:
		return f, dimacs.Fault{}
	}
	return api.Formula{}, last
}

// Parse is held against the definitions for texts put together from pieces, right ones and wrong ones.
func TestParseByDefinition(t *testing.T) {
	pieces := []string{
		" ", " ", " ", " ", " ", "\t", "\n", "\n", "\n", "0", "0 ", " 0\n", " 0 ", "1 ", "-1 ", "2 ", "-2 ", "3 ", "1 -2 0\n", "-3 2 0 ", "c", "c\n", "\nc 1 0\n",
		"-", "x", "00", "10", "\r", "\xff", "é", "p", "p cnf", "p cnf 3 2\n", "4", "999999999 ", "1000000000 ",
	}
	headers := []string{"", "p cnf 3 3\n", "p cnf 2 2\n", "c\n p\tcnf 3 1 \n", "p cnf 3 0\n", "p cnf 0 2\n", "\n\np cnf 4 4\n", "p cnf 3 3", "p cnf "}
	var r recurrence
	found := map[api.Errno]int{}
	for n := range 60000 {
		s := headers[r.below(len(headers))]
		few := len(pieces)
		if n%2 == 0 {
			few = 23 // mostly right ones
		}
		for range r.below(14) {
			s += pieces[r.below(few)]
		}
		want, fault := reference(s)
		f, err := dimacs.Parse(s)
		found[fault.Err]++
		if fault.Err == api.OK {
			if err != nil || !equal(f, want) {
				t.Fatalf("Parse(%q) is %v, %v; not %v", s, f, err, want)
			}
			wantFormula(t, dimacs.Print(f), f)
			continue
		}
		if got, ok := err.(*dimacs.Fault); !ok || *got != fault || !zero(f) {
			t.Fatalf("Parse(%q) is %v, %v; not %v", s, f, err, fault)
		}
	}
	for _, e := range []api.Errno{api.OK, api.ErrHeader, api.ErrWord, api.ErrRange, api.ErrMany, api.ErrFew, api.ErrOpen} {
		if found[e] < 100 {
			t.Errorf("too few texts with %v: %d", e, found[e])
		}
	}
}

// P0 for this layer: whatever is passed, each call returns.
func TestWrongInputsReturn(t *testing.T) {
	for _, f := range []api.Formula{
		{Vars: -1}, {Vars: math.MinInt}, {Vars: math.MaxInt, Clauses: [][]int{{0, 0}, nil, {math.MinInt, math.MaxInt}}},
		{Clauses: [][]int{{1, 2}, {-9}}}, {Vars: 3, Clauses: slices.Repeat([][]int{{1}}, api.MaxClauses+1)},
		{Vars: 1, Clauses: [][]int{slices.Repeat([]int{1}, api.MaxLits+1)}},
	} {
		s := dimacs.Print(f)
		if g, err := dimacs.Parse(s); err == nil || !zero(g) {
			t.Errorf("what is printed of %v, which is not valid, has the formula %v", brief(f), brief(g))
		}
	}
	var none *dimacs.Fault
	if none.Error() != "" || none.Unwrap() != nil {
		t.Errorf("of a nil fault: %q, %v", none.Error(), none.Unwrap())
	}
	long := strings.Repeat("9", 1<<22)
	wantFault(t, long, 1, api.ErrHeader)
	wantFault(t, "p cnf 1 "+long, 1, api.ErrHeader)
	wantFault(t, "p cnf 1 1 "+long, 1, api.ErrHeader)
	wantFault(t, "p cnf 1 1\n1 -"+long, 2, api.ErrWord)
	wantFormula(t, strings.Repeat(" ", 1<<20)+"p cnf 1 1"+strings.Repeat("\t", 1<<20)+"\nc"+long+"\n1 0", formula(1, []int{1}))
	var r recurrence
	for range 2000 {
		b := make([]byte, r.below(40))
		for i := range b {
			b[i] = byte(r.below(256))
		}
		if f, err := dimacs.Parse(string(b)); err == nil || !zero(f) {
			t.Errorf("Parse(%q) is %v, %v", b, f, err)
		}
	}
}

// The same call has the same result, whatever was read before.
func TestParseKeepsNothing(t *testing.T) {
	s := "p cnf 3 2\n1 -2 0\n3 0\n"
	f, _ := dimacs.Parse(s)
	for _, x := range []string{"", "p cnf 3 2\n1 -2", "x", "p cnf 100001 1", "p cnf 1 1\n1 0"} {
		_, _ = dimacs.Parse(x)
		if g, err := dimacs.Parse(s); err != nil || !reflect.DeepEqual(f, g) {
			t.Errorf("after %q: %v, %v", x, g, err)
		}
	}
}
