package grader_test

import (
	"strings"
	"testing"

	"grader/grader"
)

type checkCase struct {
	src string
	e   grader.Errno
	at  int
}

func checkAll(t *testing.T, promise string, cases []checkCase) {
	t.Helper()
	for _, c := range cases {
		if e, at := grader.Check(c.src); e != c.e || at != c.at {
			t.Errorf("%s: Check(%.60q) = %d, %d, want %d, %d", promise, c.src, e, at, c.e, c.at)
		}
	}
}

func accepted(sources ...string) []checkCase {
	cases := []checkCase{}
	for _, s := range sources {
		cases = append(cases, checkCase{s, grader.OK, 0})
	}
	return cases
}

func TestCheckAccepts(t *testing.T) {
	checkAll(t, "P3", accepted(
		"", " ", "\x00\x01\x1f \t\r\n", "0", "00000", "65535", "9 99 999 9999 09999",
		"dup drop swap over + - * / mod and or xor = < @ ! emit key mark",
		"dup\x00drop\x1fswap\x0bover",
		"if then", "if else then", "begin until", "begin while repeat",
		"if if then else if then then", "begin begin until while begin until repeat",
		"if begin while if else then repeat else begin until then",
		": a ;", ": a if else then begin until begin while repeat ;",
		": a exit ; : b recurse ; : c if exit else recurse then begin while exit repeat ;",
		": a 1 ; if a then begin a until", ": a ; : b a ; : c a b ; c",
		": dup dup ; dup", ": + - ; 1 2 +", ": -1 ; -1", ": 1x ; 1x", ": x1 ; x1", ": +5 ; +5",
		": IF ; IF", ": \xff\x80 ; \xff\x80", ": \x7f ; \x7f", ": ;; ; ;;", ": :: ; ::", ": a: ; a:",
		": mark ; : emit mark ; emit",
		strings.Repeat(" ", 399)+"1", strings.Repeat("1 ", 200),
		": "+strings.Repeat("n", 396)+" ;",
		strings.Repeat("if ", 50)+strings.Repeat("then ", 50),
	))
}

func TestCheckErrWord(t *testing.T) {
	checkAll(t, "P3", []checkCase{
		{"65536", grader.ErrWord, 0}, {"99999", grader.ErrWord, 0}, {"000000", grader.ErrWord, 0}, {" 100000", grader.ErrWord, 1},
		{strings.Repeat("9", 400), grader.ErrWord, 0}, {"18446744073709551616", grader.ErrWord, 0},
		{"1 2 nope nope", grader.ErrWord, 4}, {"-1", grader.ErrWord, 0}, {"+1", grader.ErrWord, 0}, {"1.", grader.ErrWord, 0}, {"0x1", grader.ErrWord, 0},
		{"Dup", grader.ErrWord, 0}, {"IF", grader.ErrWord, 0}, {"dupdrop", grader.ErrWord, 0}, {"du", grader.ErrWord, 0}, {"dup\x7fdrop", grader.ErrWord, 0}, {"dup\xa0", grader.ErrWord, 0},
		{"\n\t \x00x", grader.ErrWord, 4},
		{": a a ; a", grader.ErrWord, 4}, {"a : a ;", grader.ErrWord, 0}, {": a b ; : b ;", grader.ErrWord, 4}, {": a ; A", grader.ErrWord, 6},
		{": ab ; a", grader.ErrWord, 7}, {": a ; ab", grader.ErrWord, 6},
		{"1 nope then", grader.ErrWord, 2}, {"if nope", grader.ErrWord, 3}, {": a nope", grader.ErrWord, 4},
		{":a ;", grader.ErrWord, 0}, {": a ;a", grader.ErrWord, 4},
		{strings.Repeat(" ", 399) + "x", grader.ErrWord, 399},
	})
}

func TestCheckErrNest(t *testing.T) {
	checkAll(t, "P3", []checkCase{
		{"then", grader.ErrNest, 0}, {"else", grader.ErrNest, 0}, {"until", grader.ErrNest, 0}, {"while", grader.ErrNest, 0}, {"repeat", grader.ErrNest, 0},
		{";", grader.ErrNest, 0}, {"exit", grader.ErrNest, 0}, {"recurse", grader.ErrNest, 0},
		{"if then then", grader.ErrNest, 8}, {"if else else then", grader.ErrNest, 8}, {"if until", grader.ErrNest, 3}, {"if while", grader.ErrNest, 3}, {"if repeat", grader.ErrNest, 3},
		{"if else until", grader.ErrNest, 8}, {"if else while", grader.ErrNest, 8}, {"if else repeat", grader.ErrNest, 8},
		{"begin then", grader.ErrNest, 6}, {"begin else", grader.ErrNest, 6}, {"begin repeat", grader.ErrNest, 6},
		{"begin while then", grader.ErrNest, 12}, {"begin while else", grader.ErrNest, 12}, {"begin while until", grader.ErrNest, 12}, {"begin while while", grader.ErrNest, 12},
		{"begin if until then", grader.ErrNest, 9}, {"begin if while then repeat", grader.ErrNest, 9}, {"begin while if repeat then", grader.ErrNest, 15}, {"if begin then until", grader.ErrNest, 9},
		{": a ; ;", grader.ErrNest, 6}, {": a ; exit", grader.ErrNest, 6}, {": a ; recurse", grader.ErrNest, 6}, {"if exit then", grader.ErrNest, 3}, {"begin recurse until", grader.ErrNest, 6},
		{": a : b", grader.ErrNest, 4}, {": a if : b", grader.ErrNest, 7}, {"if : a ;", grader.ErrNest, 3}, {"if else : a ;", grader.ErrNest, 8}, {"begin : a ;", grader.ErrNest, 6}, {"begin while : a ;", grader.ErrNest, 12},
		{": a if ; then", grader.ErrNest, 7}, {": a begin ;", grader.ErrNest, 10}, {": a then ;", grader.ErrNest, 4}, {"if ; then", grader.ErrNest, 3},
		{": a exit if exit", grader.ErrNest, 16}, {"then nope", grader.ErrNest, 0},
		{"if", grader.ErrNest, 2}, {"if ", grader.ErrNest, 3}, {"if else\n\n", grader.ErrNest, 9}, {"begin", grader.ErrNest, 5}, {"begin while", grader.ErrNest, 11}, {": a", grader.ErrNest, 3}, {": a if then", grader.ErrNest, 11}, {": a ; if begin until", grader.ErrNest, 20},
		{strings.Repeat("if ", 133) + " ", grader.ErrNest, 400},
	})
}

func TestCheckErrName(t *testing.T) {
	cases := []checkCase{
		{":", grader.ErrName, 1}, {"1 :", grader.ErrName, 3}, {": \n ", grader.ErrName, 4}, {": a ; :", grader.ErrName, 7},
		{": 0 ;", grader.ErrName, 2}, {": 65535 ;", grader.ErrName, 2}, {": 65536 ;", grader.ErrName, 2}, {": 000000 ;", grader.ErrName, 2},
		{":  5 nope", grader.ErrName, 3}, {": " + strings.Repeat("7", 300), grader.ErrName, 2},
	}
	for _, w := range strings.Fields("if else then begin until while repeat exit recurse : ;") {
		cases = append(cases, checkCase{": " + w + " ;", grader.ErrName, 2}, checkCase{": a ; : " + w, grader.ErrName, 8})
	}
	checkAll(t, "P3", cases)
}

func TestCheckErrLong(t *testing.T) {
	checkAll(t, "P3", []checkCase{
		{strings.Repeat(" ", 400), grader.OK, 0}, {strings.Repeat(" ", 401), grader.ErrLong, 0},
		{strings.Repeat("1 ", 200) + " ", grader.ErrLong, 0},
		{"then" + strings.Repeat(" ", 396), grader.ErrNest, 0}, {"then" + strings.Repeat(" ", 397), grader.ErrLong, 0},
		{strings.Repeat(": ", 1000000), grader.ErrLong, 0},
	})
}
