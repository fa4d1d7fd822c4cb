package drat_test

import (
	"encoding/binary"
	"fmt"
	"math"
	"regexp"
	"slices"
	"strings"
	"testing"

	"bradawl/api"
	"bradawl/drat"
)

// last is the greatest variable.
const last = api.MaxVars

// outside are numbers that are literals of no proof.
var outside = []int{0, last + 1, -last - 1, last + 2, 2 * last, -2 * last, math.MaxInt32, math.MinInt32, math.MaxInt / 2, math.MinInt / 2, math.MaxInt, math.MinInt + 1, math.MinInt}

// A recurrence stands in for a random source, so that every run tests the same.
type recurrence uint32

// below returns a number from 0 to n - 1.
func (r *recurrence) below(n int) int {
	*r = *r*1664525 + 1013904223
	return int(*r>>8) % n
}

// literal returns one, small or great.
func (r *recurrence) literal() int {
	vars := []int{1, 3, 63, 64, 70, 8191, 8192, 8200, last}
	v := vars[r.below(len(vars))]
	if r.below(2) == 0 {
		v = 1 + r.below(v)
	}
	return v * (1 - 2*r.below(2))
}

// proof returns one of at most so many steps.
func (r *recurrence) proof(steps int) []api.Step {
	out := make([]api.Step, r.below(steps+1))
	for i := range out {
		out[i].Delete = r.below(3) == 0
		for range r.below(6) {
			out[i].Lits = append(out[i].Lits, r.literal())
		}
	}
	return out
}

// add returns a step that adds a clause.
func add(lits ...int) api.Step {
	return api.Step{Lits: lits}
}

// remove returns a step that deletes one.
func remove(lits ...int) api.Step {
	return api.Step{Delete: true, Lits: lits}
}

// proof returns one of these steps.
func proof(steps ...api.Step) []api.Step {
	return steps
}

// equal tells by the definition whether both proofs are the same.
func equal(p, q []api.Step) bool {
	if len(p) != len(q) {
		return false
	}
	for i := range p {
		if p[i].Delete != q[i].Delete || len(p[i].Lits) != len(q[i].Lits) {
			return false
		}
		for k := range p[i].Lits {
			if p[i].Lits[k] != q[i].Lits[k] {
				return false
			}
		}
	}
	return true
}

// clone returns the same proof in memory of its own.
func clone(p []api.Step) []api.Step {
	out := slices.Clone(p)
	for i := range out {
		out[i].Lits = slices.Clone(out[i].Lits)
	}
	return out
}

// textOf returns the text of a proof by the definition.
func textOf(p []api.Step) string {
	var b strings.Builder
	for _, s := range p {
		if s.Delete {
			b.WriteString("d ")
		}
		for _, l := range s.Lits {
			fmt.Fprintf(&b, "%d ", l)
		}
		b.WriteString("0\n")
	}
	return b.String()
}

// bytesOf returns the bytes of a proof by the definition.
func bytesOf(p []api.Step) []byte {
	var b []byte
	for _, s := range p {
		if s.Delete {
			b = append(b, 100)
		} else {
			b = append(b, 97)
		}
		for _, l := range s.Lits {
			n := uint64(2 * l)
			if l < 0 {
				n = uint64(2*-l + 1)
			}
			b = binary.AppendUvarint(b, n)
		}
		b = append(b, 0)
	}
	return b
}

// brief shortens a proof for a report.
func brief(p []api.Step) string {
	return fmt.Sprintf("%.300s", fmt.Sprint(p[:min(len(p), 40)]))
}

// wantProof tests that a proof has this text and these bytes, and is restored from both.
func wantProof(t *testing.T, p []api.Step, text, bytes string) {
	t.Helper()
	kept := clone(p)
	if !drat.Right(p) {
		t.Errorf("%s is no proof", brief(p))
	}
	if got := drat.Text(p); got != text {
		t.Errorf("Text(%s) is %.80q, not %.80q", brief(p), got, text)
	}
	if got := drat.Binary(p); string(got) != bytes {
		t.Errorf("Binary(%s) is %.80x, not %.80x", brief(p), got, bytes)
	}
	if !equal(p, kept) {
		t.Errorf("%s was changed to %s", brief(kept), brief(p))
	}
	wantOfText(t, text, p)
	wantOfBytes(t, bytes, p)
}

// wantOfText tests that a text is that of a proof.
func wantOfText(t *testing.T, s string, want []api.Step) {
	t.Helper()
	p, err := drat.ParseText(s)
	if err != api.OK || !equal(p, want) || !drat.Same(p, want) {
		t.Errorf("ParseText(%.80q) is %s, %v; not %s", s, brief(p), err, brief(want))
	}
}

// wantOfBytes tests that bytes are those of a proof.
func wantOfBytes(t *testing.T, b string, want []api.Step) {
	t.Helper()
	arg := []byte(b)
	p, err := drat.ParseBinary(arg)
	if err != api.OK || !equal(p, want) || !drat.Same(p, want) {
		t.Errorf("ParseBinary(%.80x) is %s, %v; not %s", b, brief(p), err, brief(want))
	}
	if string(arg) != b {
		t.Errorf("ParseBinary changed %.80x to %.80x", b, arg)
	}
}

// wantNoText tests that a text is that of no proof.
func wantNoText(t *testing.T, s string) {
	t.Helper()
	if p, err := drat.ParseText(s); err != api.ErrForm || len(p) != 0 {
		t.Errorf("ParseText(%.80q) is %s, %v", s, brief(p), err)
	}
}

// wantNoBytes tests that bytes are those of no proof.
func wantNoBytes(t *testing.T, b string, want api.Errno) {
	t.Helper()
	arg := []byte(b)
	if p, err := drat.ParseBinary(arg); err != want || len(p) != 0 {
		t.Errorf("ParseBinary(%.80x) is %s, %v; not %v", b, brief(p), err, want)
	}
	if string(arg) != b {
		t.Errorf("ParseBinary changed %.80x to %.80x", b, arg)
	}
}

func TestRight(t *testing.T) {
	for _, p := range [][]api.Step{
		nil, {}, {add()}, {remove()}, {{Lits: []int{}}}, {add(1), remove(1), add(1), add()},
		{add(1, 1, -1, 1)}, {remove(last, -last)}, {add(), remove(-last), add(), remove(last, 3)},
	} {
		kept := clone(p)
		if !drat.Right(p) || !equal(p, kept) {
			t.Errorf("%v: is it a proof, and unchanged: %v, %v", kept, drat.Right(kept), p)
		}
	}
	// One literal that is none is found in each step and at each place.
	for _, l := range outside {
		for i := range 3 {
			for k := range 3 {
				for _, deletes := range []bool{false, true} {
					p := proof(add(1, 2, 3), add(-1, -2, -3), add(last, -last, 1))
					p[i].Lits[k], p[i].Delete = l, deletes
					if drat.Right(p) {
						t.Errorf("%v is a proof", p)
					}
				}
			}
		}
	}
}

func TestProofs(t *testing.T) {
	cases := []struct {
		p           []api.Step
		text, bytes string
	}{
		{nil, "", ""},
		{[]api.Step{}, "", ""},
		{proof(add()), "0\n", "a\x00"},
		{proof(remove()), "d 0\n", "d\x00"},
		{proof(api.Step{Lits: []int{}}), "0\n", "a\x00"},
		{proof(add(), add(), remove(), add()), "0\n0\nd 0\n0\n", "a\x00a\x00d\x00a\x00"},
		{proof(remove(63, -8193)), "d 63 -8193 0\n", "\x64\x7e\x83\x80\x01\x00"},
		{proof(add(1)), "1 0\n", "a\x02\x00"},
		{proof(add(-1)), "-1 0\n", "a\x03\x00"},
		{proof(remove(1, -1)), "d 1 -1 0\n", "d\x02\x03\x00"},
		{proof(add(2, 1, -2, 1, 2)), "2 1 -2 1 2 0\n", "a\x04\x02\x05\x02\x04\x00"},
		// The letters' own numbers are literals like others: 97 is -48, and 100 is 50.
		{proof(add(-48, 50), remove(50, -48)), "-48 50 0\nd 50 -48 0\n", "aad\x00dda\x00"},
		// One group up to 127, two up to 16383, three up to 200001.
		{proof(add(63, -63)), "63 -63 0\n", "a\x7e\x7f\x00"},
		{proof(add(64, -64)), "64 -64 0\n", "a\x80\x01\x81\x01\x00"},
		{proof(add(-64, 64, 65)), "-64 64 65 0\n", "a\x81\x01\x80\x01\x82\x01\x00"},
		{proof(add(128, -255, 256)), "128 -255 256 0\n", "a\x80\x02\xff\x03\x80\x04\x00"},
		{proof(add(8191, -8191)), "8191 -8191 0\n", "a\xfe\x7f\xff\x7f\x00"},
		{proof(add(8192, -8192)), "8192 -8192 0\n", "a\x80\x80\x01\x81\x80\x01\x00"},
		{proof(add(16384, -16385)), "16384 -16385 0\n", "a\x80\x80\x02\x83\x80\x02\x00"},
		{proof(remove(99999, -99999)), "d 99999 -99999 0\n", "d\xbe\x9a\x0c\xbf\x9a\x0c\x00"},
		{proof(add(last, -last)), "100000 -100000 0\n", "a\xc0\x9a\x0c\xc1\x9a\x0c\x00"},
		{proof(add(9), add(10), add(99), add(100), add(-999), add(-1000), add(10000)),
			"9 0\n10 0\n99 0\n100 0\n-999 0\n-1000 0\n10000 0\n",
			"a\x12\x00a\x14\x00a\xc6\x01\x00a\xc8\x01\x00a\xcf\x0f\x00a\xd1\x0f\x00a\xa0\x9c\x01\x00"},
		{proof(add(1, -2), remove(), add(), add(last, -last)), "1 -2 0\nd 0\n0\n100000 -100000 0\n", "a\x02\x05\x00d\x00a\x00a\xc0\x9a\x0c\xc1\x9a\x0c\x00"},
	}
	for _, c := range cases {
		wantProof(t, c.p, c.text, c.bytes)
	}
}

// Every literal has its word and its number, as the only one of a step, and as one of all.
func TestEveryLiteral(t *testing.T) {
	var all []int
	var each []api.Step
	for v := 1; v <= last; v++ {
		for _, l := range []int{v, -v} {
			all = append(all, l)
			each = append(each, api.Step{Delete: l%3 == 0, Lits: []int{l}})
		}
	}
	wantProof(t, each, textOf(each), string(bytesOf(each)))
	slices.Reverse(all)
	for _, p := range [][]api.Step{{add(all...)}, {remove(all...), add(), add(all...)}} {
		wantProof(t, p, textOf(p), string(bytesOf(p)))
	}
}

// P6.2: proofs are restored from their texts and bytes, whatever they are; and both have the same.
func TestRestored(t *testing.T) {
	var r recurrence
	for range 4000 {
		p := r.proof(8)
		wantProof(t, p, textOf(p), string(bytesOf(p)))
		fromText, _ := drat.ParseText(drat.Text(p))
		fromBytes, _ := drat.ParseBinary(drat.Binary(p))
		if !drat.Same(fromText, fromBytes) || drat.Text(fromBytes) != drat.Text(p) || string(drat.Binary(fromText)) != string(drat.Binary(p)) {
			t.Errorf("of %v: %v and %v", p, fromText, fromBytes)
		}
	}
}

// A proof is not bounded as a formula is: neither its steps nor its literals.
func TestLongProofs(t *testing.T) {
	for _, p := range [][]api.Step{
		{add(slices.Repeat([]int{last, -1, 64}, api.MaxLits/3+1)...), remove(slices.Repeat([]int{-last}, api.MaxLits+1)...)},
		slices.Repeat(proof(add(1), remove(-8192, 7), add()), api.MaxClauses),
	} {
		wantProof(t, p, textOf(p), string(bytesOf(p)))
	}
}

func TestSame(t *testing.T) {
	proofs := [][]api.Step{
		nil, {add()}, {remove()}, {add(), add()}, {add(), remove()}, {remove(), add()}, {remove(), remove()},
		{add(1)}, {add(-1)}, {add(2)}, {remove(1)}, {remove(-1)}, {add(1), add()}, {add(), add(1)}, {remove(1), add()}, {add(1), remove()},
		{add(1, 2)}, {add(2, 1)}, {add(1, -2)}, {add(1, 2, 2)}, {add(1, 1, 2)}, {add(1, 2, 1)}, {add(1, 1)}, {remove(1, 2)}, {remove(2, 1)},
		{add(1), add(2)}, {add(2), add(1)}, {add(1), remove(2)}, {add(1), add(2), add()}, {add(1), add(2), add(2)},
		{add(last)}, {add(-last)}, {add(last, -last)}, {add(-last, last)}, {add(last), add(-last)},
	}
	for i, p := range proofs {
		for k, q := range proofs {
			x, y := clone(p), clone(q)
			if got := drat.Same(x, y); got != (i == k) {
				t.Errorf("Same(%v, %v) is %v", p, q, got)
			}
			if !equal(x, p) || !equal(y, q) {
				t.Errorf("%v and %v were changed to %v and %v", p, q, x, y)
			}
		}
	}
	if !drat.Same(nil, []api.Step{}) || !drat.Same(proof(api.Step{Lits: []int{}}), proof(add())) {
		t.Error("nothing is not the same as nothing")
	}
}

// Same finds each single difference of proofs.
func TestSameFindsDifferences(t *testing.T) {
	var r recurrence
	for range 3000 {
		p := r.proof(6)
		if !drat.Same(p, clone(p)) {
			t.Fatalf("%v is not the same as itself", p)
		}
		for i := range p {
			q := clone(p)
			q[i].Delete = !q[i].Delete
			others := [][]api.Step{q, p[:i], slices.Insert(clone(p), i, add(last))}
			for k := range p[i].Lits {
				less, more := clone(p), clone(p)
				less[i].Lits = slices.Delete(less[i].Lits, k, k+1)
				more[i].Lits[k] = -more[i].Lits[k]
				others = append(others, less, more)
			}
			for _, q := range others {
				if drat.Same(p, q) || drat.Same(q, p) {
					t.Fatalf("%v and %v are the same", p, q)
				}
			}
		}
	}
}

func TestParseTextWrongLines(t *testing.T) {
	for _, line := range []string{
		// leading zeros, signs, and what is no number
		"00", "000", "01 0", "001 0", "-01 0", "1 02 0", "1 00", "1 -0 0", "-0", "-0 0", "+0", "+1 0", "1 +2 0", "-+1 0", "+-1 0", "--1 0", "- 1 0", "-", "- 0", "-1- 0", "1- 0",
		"1.0 0", "1e0 0", "0x1 0", "1_0 0", "1_000 0", "1, 0", "1,2 0", "x", "x 0", "0x", "1 x 0", "1 2x 0", "a 1 0", "c 1 0", "p cnf 1 1", "c", "%", "é 0", "١ 0", "１ 0", "−1 0", "\xff 0", "1\xff 0", "1\x00 0", "\x00",
		// blanks, too few or too many
		"", " ", "  ", " 0", "0 ", " 0 ", "  0", " 1 0", "1 0 ", "1  0", "1  2 0", "1 2  0", "10", "1-2 0", "d  0", "d  1 0", " d 0", " d 1 0", "d0", "d1 0", "d-1 0", "d 1 0 ", "d 1  0", "d 0 ", "1\t0", "1\t 0", "\t0", "d\t0", "d\t1 0", "1\u00a00", "1\u00a0 0",
		// what ends a line, and what begins it
		"1", "1 ", "-1", "1 2", "1 -2", "d", "d ", "d 1", "d 1 ", "1 d 0", "1 0d", "d d 0", "d d 1 0", "d 1 d 0", "dd 0", "D 0", "D 1 0", "a 0", "a 1 0", "0 d", "d 0d",
		"0 0", "1 0 0", "0 1 0", "1 0 1 0", "0 1", "1 0 1", "1 0 d 1 0", "0 d 0",
		// another line end
		"0\r", "1 0\r", "d 0\r", "\r", "1 \r0", "1 0\v", "1 0\f", "1 0\x00", "1 0\u2028", "0\u0085",
		// literals of no permitted variable
		"100001 0", "-100001 0", "100002 0", "200000 0", "-200001 0", "999999 0", "1000000 0", "1000001 0", "-1000000 0", "9999999 0", "2147483648 0", "-2147483649 0",
		"4294967297 0", "-4294967297 0", "9223372036854775807 0", "9223372036854775808 0", "-9223372036854775808 0", "-9223372036854775809 0", "18446744073709551617 0", "-18446744073709551615 0",
		"36893488147419103233 0", "99999999999999999999999999999999999999 0", "1 2 100001 0", "100001 1 0", "d 100001 0", "d -100001 0", "d 1 -100001 2 0", "0100000 0",
	} {
		wantNoText(t, line+"\n")
		wantNoText(t, "1 -2 0\n"+line+"\n")
		wantNoText(t, line+"\n0\n")
		wantNoText(t, "d 1 0\n"+line+"\nd 100000 0\n0\n")
		if !strings.HasPrefix(line, "d") {
			wantNoText(t, "d "+line+"\n")
		}
	}
}

func TestParseTextLineEnds(t *testing.T) {
	wantOfText(t, "", nil)
	for _, s := range []string{"0", "1 0", "d 0", "d 1 0", "1 -2 0", "100000 0"} {
		wantOfText(t, s+"\n"+s+"\n", slices.Concat(of(t, s+"\n"), of(t, s+"\n")))
		wantNoText(t, s)
		wantNoText(t, s+"\n"+s)
		wantNoText(t, "0\nd 3 0\n"+s)
		wantNoText(t, s+"\n\n")
		wantNoText(t, "\n"+s+"\n")
		wantNoText(t, s+"\n \n")
		wantNoText(t, s+"\n\r")
		wantNoText(t, s+"\r\n")
		wantNoText(t, s+"\n\r"+s+"\n")
		wantNoText(t, s+"\r"+s+"\r")
		wantNoText(t, s+"\n\x00")
		wantNoText(t, "\ufeff"+s+"\n")
		// A line end ends the line, wherever it stands.
		for i := range len(s) {
			wantNoText(t, s[:i]+"\n"+s[i:]+"\n")
			wantNoText(t, s[:i]+" \n"+s[i:]+"\n")
		}
	}
	wantNoText(t, "\n")
	wantNoText(t, "\n\n")
}

// of returns the proof with a text.
func of(t *testing.T, s string) []api.Step {
	t.Helper()
	p, err := drat.ParseText(s)
	if err != api.OK || len(p) == 0 {
		t.Errorf("ParseText(%q) is %v, %v", s, p, err)
	}
	return p
}

// wrongBytes are those of no proof, and no first bytes of one; the last byte of each makes it so.
var wrongBytes = []string{
	// another first byte
	"\x00", "\x01", "\x02", "b", "c", "A", "D", " ", "1", "0", "\n", "`", "e", "\x7f", "\x80", "\xe1", "\xe4", "\xff", "a\x00\x00", "a\x02\x00\x02", "d\x00b", "a\x00\xe1",
	// a last group that is 0, alone or after others
	"a\x80\x00", "a\x82\x00", "a\xff\x00", "d\x81\x00", "a\x80\x80\x00", "a\xc2\x80\x00", "a\xff\xff\x00", "a\x02\x80\x00", "a\x80\x01\x80\x00",
	// numbers of no literal
	"a\x01", "d\x01", "a\x02\x01", "a\x80\x01\x01", "a\xc2\x9a\x0c", "d\xc3\x9a\x0c", "a\xc4\x9a\x0c", "a\xff\x9a\x0c", "a\x80\x9b\x0c", "a\xc0\x9b\x0c", "a\xff\xff\x0c", "a\x80\x80\x0d", "a\xc0\x9a\x0d", "a\x80\x80\x10", "a\xff\xff\x7f", "a\x80\x80\x40", "a\x02\xc2\x9a\x0c",
	// more groups than a literal can have
	"a\x80\x80\x80", "a\x82\x80\x80", "a\xff\xff\xff", "d\xff\xff\xff", "a\xc0\x9a\x8c", "a\x81\x80\x81", "a\x02\x80\x80\x80", "d\x80\x01\xff\xff\x80",
}

// shortBytes are the first ones of the bytes of a proof, but lack some at their end.
var shortBytes = []string{
	"a", "d", "a\x02", "d\x03", "a\x7f", "a\x02\x03", "aa", "ad", "dd", "da", "a\x00a", "a\x00d", "d\x00a\x02", "a\x02\x00d\x05",
	"a\x80", "a\x81", "a\x82", "a\xc0", "a\xc2", "a\xfe", "a\xff", "d\xff", "a\x02\x80", "a\x80\x01", "a\xff\x7f", "a\x80\x02\x80",
	"a\x80\x80", "a\x81\x80", "a\x80\x81", "a\xc1\x9a", "a\xc2\x9a", "a\xff\xff", "d\xff\xff", "a\x02\x80\x80", "a\x80\x01\xff\xff",
	"a\x80\x80\x01", "a\x81\x80\x01", "a\xff\xff\x0b", "a\xc0\x9a\x0c", "a\xc1\x9a\x0c", "a\xff\x99\x0c", "a\x80\x9a\x0c", "d\xc1\x9a\x0c\xc1\x9a\x0c",
}

func TestParseBinaryWrong(t *testing.T) {
	for _, b := range wrongBytes {
		for _, front := range []string{"", "a\x00", "d\x80\x01\x02\x00a\x00"} {
			wantNoBytes(t, front+b, api.ErrForm)
			// What follows does not mend it.
			for _, behind := range []string{"\x00", "\x01", "\x01\x00", "\x02\x00", "a", "a\x00", "\x80", "\xff\xff\xff", "\x00\x00", strings.Repeat("\x80", 20) + "\x01\x00"} {
				wantNoBytes(t, front+b+behind, api.ErrForm)
			}
		}
	}
	// A number is not taken for the one that its lowest bits have.
	for n := 4; n <= 12; n++ {
		wantNoBytes(t, "a\x82"+strings.Repeat("\x80", n-2)+"\x01\x00", api.ErrForm)
		wantNoBytes(t, "a\x82"+strings.Repeat("\x80", n-2)+"\x02\x00", api.ErrForm)
		wantNoBytes(t, "a\x82"+strings.Repeat("\x80", n-2)+"\x00\x00", api.ErrForm)
	}
}

func TestParseBinaryShort(t *testing.T) {
	for _, b := range shortBytes {
		for _, front := range []string{"", "a\x00", "d\x80\x01\x02\x00a\x00"} {
			wantNoBytes(t, front+b, api.ErrShort)
		}
	}
	// The step is ended by a 0, unless a number has begun, and by a 1 and a 0 then.
	for _, b := range shortBytes {
		end := "\x00"
		if b[len(b)-1] >= 128 {
			end = "\x01\x00"
		}
		if _, err := drat.ParseBinary([]byte(b + end)); err != api.OK {
			t.Errorf("ParseBinary(%x) is %v", b+end, err)
		}
	}
}

// The bytes of a proof, cut at each place, are those of the steps before it, or lack some.
func TestParseBinaryCut(t *testing.T) {
	var r recurrence
	for range 1500 {
		p := r.proof(5)
		b := string(bytesOf(p))
		whole := map[int]int{} // the numbers of steps by where they end
		for n := range len(p) + 1 {
			whole[len(bytesOf(p[:n]))] = n
		}
		for i := range len(b) + 1 {
			if n, ok := whole[i]; ok {
				wantOfBytes(t, b[:i], p[:n])
			} else {
				wantNoBytes(t, b[:i], api.ErrShort)
			}
		}
	}
}

// The text of a proof, cut at each place, is that of the steps before it, or none.
func TestParseTextCut(t *testing.T) {
	var r recurrence
	for range 1500 {
		p := r.proof(5)
		s := textOf(p)
		for i := range len(s) + 1 {
			if i == 0 || s[i-1] == '\n' {
				wantOfText(t, s[:i], p[:strings.Count(s[:i], "\n")])
			} else {
				wantNoText(t, s[:i])
			}
		}
	}
}

// The definitions, as patterns; in those of bytes each byte is a character of the same number.
var (
	textPattern = regexp.MustCompile(`\A(?:(?:d )?(?:-?(?:[1-9][0-9]{0,4}|100000) )*0\n)*\z`)

	number     = `(?:[\x02-\x7f]|[\x80-\xff][\x01-\x7f]|[\x80-\xff]{2}[\x01-\x0b]|[\x80-\xff][\x80-\x99]\x0c|[\x80-\xc1]\x9a\x0c)`
	wholeSteps = `\A(?:[ad]` + number + `*\x00)*`
	whole      = regexp.MustCompile(wholeSteps + `\z`)
	begun      = regexp.MustCompile(wholeSteps + `[ad]` + number + `*[\x80-\xff]{0,2}\z`)
)

// expected tells by the definitions alone what ParseBinary returns for bytes.
func expected(b []byte) api.Errno {
	chars := make([]rune, len(b))
	for i, c := range b {
		chars[i] = rune(c)
	}
	switch s := string(chars); {
	case whole.MatchString(s):
		return api.OK
	case begun.MatchString(s):
		return api.ErrShort
	}
	return api.ErrForm
}

// holdBytes holds ParseBinary against the definitions, and returns what is expected.
func holdBytes(t *testing.T, b []byte) api.Errno {
	t.Helper()
	want := expected(b)
	p, err := drat.ParseBinary(b)
	if err != want || err != api.OK && len(p) > 0 {
		t.Fatalf("ParseBinary(%x) is %v, %v; not %v", b, p, err, want)
	}
	// No two proofs have the same bytes, so one that has these is the right one.
	if err == api.OK && (!drat.Right(p) || string(bytesOf(p)) != string(b)) {
		t.Fatalf("ParseBinary(%x) is %v, with the bytes %x", b, p, bytesOf(p))
	}
	return want
}

// ParseBinary is held against the definitions for all strings of up to five bytes, of those bytes at which something changes.
func TestParseBinaryAllSmall(t *testing.T) {
	found := map[api.Errno]int{}
	bytes := []byte{0, 1, 2, 0x0c, 0x0d, 'a', 'd', 0x7f, 0x80, 0x9a, 0xc1, 0xc2, 0xff}
	var grow func(b []byte)
	grow = func(b []byte) {
		found[holdBytes(t, b)]++
		if len(b) == 5 {
			return
		}
		for _, c := range bytes {
			grow(append(slices.Clip(b), c))
		}
	}
	grow(nil)
	if found[api.OK] < 100 || found[api.ErrShort] < 1000 || found[api.ErrForm] < 1000 {
		t.Errorf("too few of one kind: %v", found)
	}
}

// Numbers of all groups, one after the other: those of up to two bytes each, and those about each limit.
func TestParseBinaryNumbers(t *testing.T) {
	for x := range 256 {
		holdBytes(t, []byte{byte(x)})
		holdBytes(t, []byte{byte(x), 0})
		for y := range 256 {
			holdBytes(t, []byte{'d', byte(x), byte(y), 0})
		}
	}
	for n := 0; n < 1<<21+5; n += 1 + min(n%7, n/1000) {
		b := append(binary.AppendUvarint([]byte{'a'}, uint64(n)), 0)
		p, err := drat.ParseBinary(b)
		l := n / 2
		if n%2 == 1 {
			l = -l
		}
		switch {
		case n == 0:
			// The step ends twice.
			if err != api.ErrForm {
				t.Errorf("ParseBinary(%x) is %v, %v", b, p, err)
			}
		case n == 1 || n > 2*last+1:
			wantNoBytes(t, string(b), api.ErrForm)
		case err != api.OK || !equal(p, proof(add(l))):
			t.Errorf("ParseBinary(%x) is %v, %v; not %d", b, p, err, l)
		}
	}
	for n := 2*last - 100; n < 2*last+100; n++ {
		holdBytes(t, append(binary.AppendUvarint([]byte{'a'}, uint64(n)), 0))
	}
}

// Changed bytes of proofs are held against the definitions.
func TestParseBinaryChanged(t *testing.T) {
	var r recurrence
	found := map[api.Errno]int{}
	for range 60000 {
		b := bytesOf(r.proof(4))
		for range 1 + r.below(2) {
			i := r.below(len(b) + 1)
			switch r.below(4) {
			case 0:
				b = slices.Insert(b, i, byte(r.below(256)))
			case 1:
				b = slices.Delete(b, min(i, len(b)), min(i+1, len(b)))
			case 2:
				b = b[:i]
			default:
				if i < len(b) {
					b[i] ^= 1 << r.below(8)
				}
			}
		}
		found[holdBytes(t, b)]++
	}
	for _, e := range []api.Errno{api.OK, api.ErrShort, api.ErrForm} {
		if found[e] < 5000 {
			t.Errorf("too few with %v: %d", e, found[e])
		}
	}
}

// holdText holds ParseText against the definitions, and returns whether a proof is expected.
func holdText(t *testing.T, s string) bool {
	t.Helper()
	p, err := drat.ParseText(s)
	if !textPattern.MatchString(s) {
		if err != api.ErrForm || len(p) > 0 {
			t.Fatalf("ParseText(%q) is %v, %v", s, p, err)
		}
		return false
	}
	if err != api.OK || !drat.Right(p) || textOf(p) != s {
		t.Fatalf("ParseText(%q) is %v, %v", s, p, err)
	}
	return true
}

// ParseText is held against the definitions for all strings of up to six of the characters that a text can have.
func TestParseTextAllSmall(t *testing.T) {
	found := map[bool]int{}
	var grow func(s string)
	grow = func(s string) {
		found[holdText(t, s)]++
		if len(s) == 6 {
			return
		}
		for _, c := range "01- d\n+" {
			grow(s + string(c))
		}
	}
	grow("")
	if found[true] < 20 || found[false] < 10000 {
		t.Errorf("too few of one kind: %v", found)
	}
}

// So it is for texts put together from pieces, right ones and wrong ones.
func TestParseTextPieces(t *testing.T) {
	right := []string{"0\n", "0\n", "1 0\n", "d 0\n", "d -7 0\n", "100000 ", "99999 ", "-100000 ", "12 ", "-3 ", "1 "}
	wrong := []string{"0", " ", "\n", "d ", "d", "-", "100001 ", "-100001 ", "1000000 ", "00 ", "01 ", "+1 ", "\t", "\r\n", "\r", "x", "\xff", "é", "1 0"}
	var r recurrence
	found := map[bool]int{}
	for range 60000 {
		s := ""
		for range r.below(9) {
			s += right[r.below(len(right))]
		}
		if r.below(2) == 0 {
			i := r.below(len(s) + 1)
			s = s[:i] + wrong[r.below(len(wrong))] + s[i:]
		}
		found[holdText(t, s)]++
	}
	if found[true] < 5000 || found[false] < 5000 {
		t.Errorf("too few of one kind: %v", found)
	}
}

// Bytes are no text, and a text is no bytes, unless there is no step.
func TestTextIsNoBytes(t *testing.T) {
	var r recurrence
	for range 2000 {
		p := append(r.proof(4), add())
		wantNoText(t, string(bytesOf(p)))
		if _, err := drat.ParseBinary([]byte(textOf(p))); err == api.OK {
			t.Errorf("ParseBinary(%q) is a proof", textOf(p))
		}
	}
}

// What is returned belongs to the caller: nothing that is done with it shows anywhere else.
func TestReturnedBelongs(t *testing.T) {
	p := proof(add(1, -2), remove(), remove(64, 8192, -last), add(3), add())
	kept, text, bytes := clone(p), textOf(p), string(bytesOf(p))
	for range 3 {
		b := drat.Binary(p)
		if string(b) != bytes {
			t.Fatalf("Binary(%v) is %x", p, b)
		}
		_ = append(b, 0xee, 0xee)
		for i := range b {
			b[i] = 0xee
		}
	}
	parse := map[string]func() ([]api.Step, api.Errno){
		"text":  func() ([]api.Step, api.Errno) { return drat.ParseText(text) },
		"bytes": func() ([]api.Step, api.Errno) { return drat.ParseBinary([]byte(bytes)) },
	}
	for name, call := range parse {
		for i := range p {
			got, err := call()
			if err != api.OK || !equal(got, kept) {
				t.Fatalf("of %s: %v, %v", name, got, err)
			}
			_ = append(got[i].Lits, 7777, 7777, 7777)
			for k := range got[i].Lits {
				got[i].Lits[k] = 7777
			}
			for k := range got {
				if k != i && !slices.Equal(got[k].Lits, kept[k].Lits) {
					t.Errorf("of %s: step %d shares memory with step %d: %v", name, k, i, got)
				}
			}
			got[i] = api.Step{}
		}
	}
	if !equal(p, kept) {
		t.Errorf("the proof was changed to %v", p)
	}
}

// A part of greater memory is passed: nothing behind its end is read or changed.
func TestArgumentsAreParts(t *testing.T) {
	all := []byte("a\x02\x00d\x04\x00xyz")
	part := all[:6]
	got, err := drat.ParseBinary(part)
	want := proof(add(1), remove(2))
	if err != api.OK || !equal(got, want) || string(all) != "a\x02\x00d\x04\x00xyz" {
		t.Errorf("ParseBinary(%x) is %v, %v, and leaves %q", part, got, err, all)
	}
	for i := range all {
		all[i] = 0xee
	}
	if !equal(got, want) {
		t.Errorf("the bytes are retained: %v", got)
	}
	lits := []int{1, 2, 3, 4, 5}
	steps := proof(add(lits[:2]...), remove(lits[2:4]...), add(9))
	if got := drat.Text(steps[:2]); got != "1 2 0\nd 3 4 0\n" {
		t.Errorf("Text is %q", got)
	}
	if got := drat.Binary(steps[:2]); string(got) != "a\x02\x04\x00d\x06\x08\x00" {
		t.Errorf("Binary is %x", got)
	}
	if !slices.Equal(lits, []int{1, 2, 3, 4, 5}) || !equal(steps, proof(add(1, 2), remove(3, 4), add(9))) {
		t.Errorf("changed: %v, %v", lits, steps)
	}
}

// The same call has the same result, whatever was called before.
func TestNothingIsKept(t *testing.T) {
	for _, s := range []string{"", "0\n", "1 0", "x", "d 100001 0\n", "d -5 0\n"} {
		for _, b := range []string{"", "a", "a\x00", "x", "a\xff\xff\xff", "d\x05\x00"} {
			_, _ = drat.ParseText(s)
			_, _ = drat.ParseBinary([]byte(b))
			wantProof(t, proof(add(5), remove(-last, 2)), "5 0\nd -100000 2 0\n", "a\x0a\x00d\xc1\x9a\x0c\x04\x00")
		}
	}
}

// P0 for this layer: whatever is passed, each call returns.
func TestWrongInputsReturn(t *testing.T) {
	steps := [][]api.Step{{add(outside...), remove(outside...)}}
	for _, l := range outside {
		steps = append(steps, proof(add(l)), proof(remove(1, l, -1)), proof(add(), add(l, l)))
	}
	for _, p := range steps {
		kept := clone(p)
		if drat.Right(p) {
			t.Errorf("%v is a proof", p)
		}
		wantNoText(t, drat.Text(p))
		_, _ = drat.ParseBinary(drat.Binary(p))
		for _, q := range steps {
			drat.Same(p, q)
		}
		if !equal(p, kept) {
			t.Errorf("%v was changed to %v", kept, p)
		}
	}
	long := strings.Repeat("9", 1<<22)
	for _, s := range []string{long, long + " 0\n", "-" + long + " 0\n", "1 " + long + "\n", strings.Repeat("d ", 1<<20) + "0\n", strings.Repeat("0", 1<<22) + "\n", strings.Repeat(" ", 1<<22), strings.Repeat("\n", 1<<22), strings.Repeat("-", 1<<22) + "1 0\n"} {
		wantNoText(t, s)
	}
	wantNoBytes(t, "a"+strings.Repeat("\xff", 1<<22), api.ErrForm)
	wantNoBytes(t, strings.Repeat("\x00", 1<<22), api.ErrForm)
	wantNoBytes(t, strings.Repeat("a", 1<<22), api.ErrShort)
	var r recurrence
	for range 20000 {
		b := make([]byte, r.below(30))
		for i := range b {
			b[i] = byte(r.below(256))
		}
		holdBytes(t, b)
		holdText(t, string(b))
	}
}
