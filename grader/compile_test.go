package grader_test

import (
	"math/rand"
	"strconv"
	"strings"
	"testing"

	"grader/grader"
)

func number(n int) string { return strconv.Itoa(n) }

// sameAsText compiles a program and compares the code's runs with the program's own.
func sameAsText(t *testing.T, src string, in string, image string, kernel, secret, rights, fuel int) grader.Result {
	t.Helper()
	code, e, at := grader.Compile(src)
	if e != grader.OK || at != 0 {
		t.Fatalf("P10: Compile(%q) = %q, %d, %d", src, code, e, at)
	}
	if e, at := grader.Verify(code); e != grader.OK || at != 0 {
		t.Fatalf("P10: Verify of Compile(%q), %q = %d, %d", src, code, e, at)
	}
	asText := grader.Run(src, in, image, kernel, secret, rights, fuel)
	asCode := grader.Exec(code, in, image, kernel, secret, rights, fuel)
	if asText != asCode {
		t.Fatalf("P10: %q (input %q, kernel %d, secret %d, rights %d, fuel %d), as text %+v, as code %+v", src, in, kernel, secret, rights, fuel, asText, asCode)
	}
	return asCode
}

func TestCompileRefuses(t *testing.T) {
	for _, c := range []checkCase{
		{"1 nope", grader.ErrWord, 2}, {"1 65536", grader.ErrWord, 2}, {"then", grader.ErrNest, 0}, {"1 if ", grader.ErrNest, 5}, {": a", grader.ErrNest, 3}, {": 5 ;", grader.ErrName, 2}, {"1 :", grader.ErrName, 3}, {strings.Repeat(" ", 401), grader.ErrLong, 0},
	} {
		if code, e, at := grader.Compile(c.src); code != "" || e != c.e || at != c.at {
			t.Errorf("P10: Compile(%.20q) = %q, %d, %d, want no code, %d, %d", c.src, code, e, at, c.e, c.at)
		}
	}
}

func TestCompileAsText(t *testing.T) {
	for _, src := range []string{
		"", " \n", "0", "65535 mark", "256 emit", "drop", ": a ;", ": a ; a", ": a 1 ; : b 2 ;", ": a exit ;  a a",
		": sq dup * ; 8 sq emit", "0 if 65 else 66 then emit", "1 if 65 else 66 then emit", "2 begin dup while 88 emit 1 - repeat",
		"0 if 1 mark then", "1 if then", "0 if then", "0 if else then", "1 if else then", "begin 1 until", "begin 0 while repeat", "begin 0 until", "begin 1 while repeat",
		"0 if 65 emit then : a 66 emit ; a", "1 if 65 emit then : a 66 emit ; : b 67 emit ; a b", "0 if 65 else 66 then : a emit ; : b a ; b 65 : c emit ; c",
		"begin 0 while repeat : a 65 emit ; : b a ; b", "begin 1 until : a 65 emit ; a", "0 if then : a ; : b ; : c ;", "0 if then : a ;", ": a ; 0 if then",
		": f dup if dup 48 + emit 1 - recurse exit then ; 4 f", ": f dup if 1 - recurse then 33 emit ; 5 f f", ": f recurse ; f", ": a 1 ; : b a a + ; : a 2 ; b a + mark",
		": a begin key dup 65535 = if exit then emit 0 until ; a a", ": + - ; 9 4 + mark", ": a if 65 else 66 then emit ; 0 a 1 a", "1 : a 2 ; 2 : b a ; + mark b",
	} {
		for fuel := -1; fuel < 50; fuel++ {
			for _, rights := range []int{0, 3, allRights} {
				sameAsText(t, src, "in", "kssuuu", 1, 2, rights, fuel)
			}
		}
		sameAsText(t, src, "", strings.Repeat("i", 256), 1, 2, allRights, 10000)
		sameAsText(t, src, "", strings.Repeat("i", 257), 1, 2, allRights, 9)
		sameAsText(t, src, "", "", 1, 2, allRights, 10001)
	}
}

// The longest programs, whose code has places above 255.
func TestCompileLongPrograms(t *testing.T) {
	for _, src := range []string{
		strings.Repeat("1 ", 200), strings.Repeat("1 drop ", 57), ": . drop ; " + strings.Repeat("1 . ", 90) + " 7 mark",
		strings.Repeat("0 if ", 40) + strings.Repeat("then ", 40), strings.Repeat("1 if ", 40) + strings.Repeat("then ", 40), strings.Repeat("1 if ", 40) + strings.Repeat("then ", 35) + "then then then then then",
		": . drop ; : x 65 emit ; " + strings.Repeat("1 . ", 80) + "begin x 1 until 0 if 1 . then 7 mark", strings.Repeat("key drop ", 20) + ": a " + strings.Repeat("1 drop ", 25) + "66 emit ; a a",
		strings.Repeat(": a ; a ", 50), strings.Repeat(": a 1 ;", 1) + strings.Repeat(" a", 196), strings.Repeat("begin 1 until ", 28), strings.Repeat(" ", 400),
	} {
		for fuel := range 700 {
			sameAsText(t, src, "in", "kssuuu", 1, 2, allRights, fuel)
		}
	}
}

func TestCompileAnyProgram(t *testing.T) {
	r := rand.New(rand.NewSource(7))
	compiled := 0
	for range 40000 {
		src := wholeProgram(r)
		if r.Intn(8) == 0 {
			src = anyText(r)
		}
		code, e, at := grader.Compile(src)
		wantE, wantAt := grader.Check(src)
		if e != wantE || at != wantAt || (e != grader.OK && code != "") {
			t.Fatalf("P10: Compile(%q) = %q, %d, %d, want the answer of Check, %d, %d", src, code, e, at, wantE, wantAt)
		}
		if e == grader.OK {
			compiled++
			in := strings.Repeat("\x00\x01a\x00", r.Intn(3))
			sameAsText(t, src, in, "kssuuu"[:r.Intn(7)], r.Intn(6)-1, r.Intn(6)-1, r.Intn(32)|r.Intn(32), r.Intn(300)-2)
			sameAsText(t, src, in, "kssuuu", 1, 2, allRights, manySteps)
		}
	}
	if compiled < 20000 {
		t.Errorf("only %d programs were compiled", compiled)
	}
}
