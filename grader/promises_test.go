package grader_test

import (
	"math/rand"
	"strings"
	"testing"

	"grader/grader"
)

// pick answers one of the words of a list.
func pick(r *rand.Rand, words string) string {
	list := strings.Fields(words)
	return list[r.Intn(len(list))]
}

const vocabulary = "0 1 2 3 5 64 65 255 256 65535 65536 000001 99999 dup drop swap over + - * / mod and or xor = < @ ! emit key mark " +
	"if if else then then begin begin until while repeat exit recurse : : ; ; a b c dup a b nope"

// anyText is made of words that mostly do not fit together.
func anyText(r *rand.Rand) string {
	text := ""
	for range r.Intn(14) {
		text += pick(r, vocabulary) + strings.Repeat(string(rune(r.Intn(33))), r.Intn(8)/7+1)
	}
	return strings.Repeat(" ", r.Intn(3)) + text
}

// wholeProgram is made of forms that fit together.
func wholeProgram(r *rand.Rand) string {
	text := strings.Repeat("7 5 ", r.Intn(6))
	names := ""
	for _, name := range strings.Fields("a b swap a")[:r.Intn(5)] {
		text += ": " + name + sequence(r, 2, names+" exit recurse") + "; " + sequence(r, 0, names)
		names += " " + name
	}
	return text + sequence(r, 3, names)
}

func sequence(r *rand.Rand, depth int, names string) string {
	text := " "
	for range r.Intn(6) {
		text += element(r, depth, names) + " "
	}
	return text
}

func element(r *rand.Rand, depth int, names string) string {
	kind := r.Intn(12)
	switch {
	case kind < 4:
		return pick(r, "0 1 2 3 4 5 6 7 65 300 65535")
	case kind < 8 || depth == 0:
		return pick(r, strings.Join(listedWords, " ")+" "+names+" "+names)
	case kind == 8:
		return "key if" + sequence(r, depth-1, names) + "then"
	case kind == 9:
		return "if" + sequence(r, depth-1, names) + "else" + sequence(r, depth-1, names) + "then"
	case kind == 10:
		return "begin" + sequence(r, depth-1, names) + "until"
	}
	return "begin" + sequence(r, depth-1, names) + "while" + sequence(r, depth-1, names) + "repeat"
}

func TestCheckAgreesWithTheSecondReading(t *testing.T) {
	r := rand.New(rand.NewSource(1))
	seen := [5]int{}
	for range 30000 {
		src := anyText(r)
		_, wantE, wantAt := oracleCheck(src)
		e, at := grader.Check(src)
		if e != wantE || at != wantAt {
			t.Fatalf("P3: Check(%q) = %d, %d, want %d, %d", src, e, at, wantE, wantAt)
		}
		seen[e]++
	}
	for _, e := range []grader.Errno{grader.OK, grader.ErrWord, grader.ErrNest, grader.ErrName} {
		if seen[e] < 100 {
			t.Errorf("the texts met the error %d only %d times", e, seen[e])
		}
	}
}

func TestRunAgreesWithTheSecondReading(t *testing.T) {
	r := rand.New(rand.NewSource(2))
	seen := [14]int{}
	for range 30000 {
		src := wholeProgram(r)
		in := strings.Repeat("\x00\x01a\x00", r.Intn(3))
		kernel, secret, rights, fuel := r.Intn(6)-1, r.Intn(6)-1, r.Intn(32)|r.Intn(32), r.Intn(300)-2
		want := oracleRun(src, in, "kssuuu", kernel, secret, rights, fuel)
		got := grader.Run(src, in, "kssuuu", kernel, secret, rights, fuel)
		if got != want {
			t.Fatalf("P4 to P7: Run(%q, %q, kernel %d, secret %d, rights %d, fuel %d) = %+v, want %+v", src, in, kernel, secret, rights, fuel, got, want)
		}
		seen[got.Err]++
	}
	for _, e := range []grader.Errno{grader.OK, grader.ErrFuel, grader.ErrUnder, grader.ErrOver, grader.ErrDeep, grader.ErrDenied, grader.ErrZero, grader.ErrFence} {
		if seen[e] < 20 {
			t.Errorf("the programs met the error %d only %d times", e, seen[e])
		}
	}
}

// P1: no call panics, and all end, at any bytes and numbers. A panic would end the test.
func TestAnyBytes(t *testing.T) {
	r := rand.New(rand.NewSource(3))
	numbers := []int{-1 << 63, -1 << 31, -1, 0, 1, 15, 255, 256, 257, 9999, 10000, 10001, 1 << 31, 1<<63 - 1}
	for range 20000 {
		bytes := make([]byte, r.Intn(410))
		for i := range bytes {
			bytes[i] = byte(r.Intn(256))
		}
		src := string(bytes)
		if r.Intn(2) == 0 {
			src = anyText(r)
		}
		n := [4]int{}
		for i := range n {
			n[i] = numbers[r.Intn(len(numbers))]
		}
		e, at := grader.Check(src)
		if e < grader.OK || e > grader.ErrName || at < 0 || at > len(src) || (e == grader.OK && at != 0) {
			t.Fatalf("P1: Check(%q) = %d, %d", src, e, at)
		}
		got := grader.Run(src, "in", strings.Repeat("i", r.Intn(260)), n[0], n[1], n[2], n[3])
		if e != grader.OK && got != (grader.Result{Err: e}) {
			t.Fatalf("P4: Run(%q) = %+v, want the error %d of Check alone", src, got, e)
		}
		e, at = grader.Verify(src)
		if e != grader.OK && e != grader.ErrCode || at < 0 || at > len(src) || (e == grader.OK && at != 0) {
			t.Fatalf("P1: Verify(%q) = %d, %d", src, e, at)
		}
		grader.Exec(src, "in", strings.Repeat("i", r.Intn(260)), n[0], n[1], n[2], n[3])
		code, e, at := grader.Compile(src)
		if (e == grader.OK) != (code != "") || at < 0 || at > len(src) || (e == grader.OK && at != 0) {
			t.Fatalf("P1: Compile(%q) = %q, %d, %d", src, code, e, at)
		}
		tests := []grader.Test{{In: src, Hidden: strings.Repeat("h", r.Intn(34))}, {In: "in"}}
		g, opened, at := grader.Open(anyText(r), tests, n[2], n[3])
		if g == nil || at < 0 || (opened == grader.OK && at != 0) {
			t.Fatalf("P1: Open = %v, %d, %d", g, opened, at)
		}
		transcript, e, at := g.Submit(src)
		if (e == grader.OK) != (transcript != "") || at < 0 || (e == grader.OK && at != 0) || (e == grader.OK) != (g.Marks() != "") {
			t.Fatalf("P1: Submit(%q) = %q, %d, %d and Marks %q", src, transcript, e, at, g.Marks())
		}
	}
}

// P1: every call answers, at the ends of the numbers and at texts and lists above the limits.
func TestEveryCallAnswers(t *testing.T) {
	for _, text := range []string{"", "1 2 +", "\x00", "\xff\xff", strings.Repeat("x", 2000)} {
		for _, n := range []int{-1 << 63, -1, 0, 15, 10000, 1<<63 - 1} {
			grader.Check(text)
			grader.Run(text, text, text, n, n, n, n)
			grader.Verify(text)
			grader.Exec(text, text, text, n, n, n, n)
			grader.Compile(text)
			for _, tests := range [][]grader.Test{nil, {{In: text, Hidden: text}}, make([]grader.Test, 7)} {
				g, _, _ := grader.Open(text, tests, n, n)
				if g == nil {
					t.Fatalf("P1: Open(%.20q) answers no Grader", text)
				}
				g.Submit(text)
				g.Marks()
			}
		}
	}
}

// P2: what was called before makes no difference.
func TestCallsShareNothing(t *testing.T) {
	const src = ": a 65 emit key 3 ! 3 @ mark ; a a"
	want := grader.Result{Out: "AA", Image: "kssy", Mark: 'y', Used: 20}
	first, _, _ := grader.Compile(src)
	for _, between := range []string{": a 1 ;", "a", ": dup 1 ; dup", "1 2 3 66 emit key drop 9 mark 90 3 !", "if", ": b", ":", ": c begin 0 until ; c", strings.Repeat("1 ", 17)} {
		if e, at := grader.Check(src); e != grader.OK || at != 0 {
			t.Errorf("P2: Check = %d, %d", e, at)
		}
		if got := grader.Run(src, "xyz", "kssu", 1, 2, allRights, 99); got != want {
			t.Errorf("P2: Run = %+v, want %+v", got, want)
		}
		code, e, at := grader.Compile(src)
		if code != first || e != grader.OK || at != 0 {
			t.Errorf("P2: Compile = %q, %d, %d, but at first %q", code, e, at, first)
		}
		if e, at := grader.Verify(code); e != grader.OK || at != 0 {
			t.Errorf("P2: Verify = %d, %d", e, at)
		}
		if got := grader.Exec(code, "xyz", "kssu", 1, 2, allRights, 99); got != want {
			t.Errorf("P2: Exec = %+v, want %+v", got, want)
		}
		if e, at := grader.Check("1 a"); e != grader.ErrWord || at != 2 {
			t.Errorf("P2: a name outlives its program: %d, %d", e, at)
		}
		grader.Check(between)
		grader.Run(between, "in", "kssu", 0, 0, allRights, 99)
		grader.Verify(between)
		grader.Compile(between)
		grader.Exec("\x01\x00\x41\x20\x04\x00\x00"+between, "in", "kssu", 0, 0, allRights, 99)
	}
}
