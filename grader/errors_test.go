package grader_test

import (
	"strings"
	"testing"

	"grader/grader"
)

var listedWords = strings.Fields("dup drop swap over + - * / mod and or xor = < @ ! emit key mark")

// needs tells how many numbers a word takes.
func needs(word string) int {
	switch word {
	case "key":
		return 0
	case "dup", "drop", "@", "emit", "mark", "if", "until", "while":
		return 1
	}
	return 2
}

func inForm(word string) string {
	switch word {
	case "if":
		return "if then"
	case "until":
		return "begin until"
	case "while":
		return "begin while repeat"
	}
	return word
}

func TestErrFuelComesFirst(t *testing.T) {
	for _, src := range []string{
		"drop", "+", "emit", "key", "mark", "1", "1 0 /", "1 9 !", "9 @", "if then", "begin until", "begin while repeat",
		": a recurse ; a", strings.Repeat("1 ", 17), ": a ; a", ": a exit ; a", "1 if else then", "begin 1 while repeat",
	} {
		whole := grader.Run(src, "", "", 0, 0, 0, manySteps)
		want := whole
		if whole.Err != grader.OK {
			want.Err = grader.ErrFuel
		}
		if r := grader.Run(src, "", "", 0, 0, 0, whole.Used); r != want {
			t.Errorf("P6: Run(%q) with fuel %d = %+v, want %+v", src, whole.Used, r, want)
		}
	}
}

func TestErrUnder(t *testing.T) {
	for _, word := range append(strings.Fields("if until while"), listedWords...) {
		for have := 0; have < needs(word); have++ {
			src := strings.Repeat("0 ", have) + inForm(word)
			want := grader.Result{Image: "abc", Used: have, Err: grader.ErrUnder}
			for _, rights := range []int{0, allRights} {
				if r := grader.Run(src, "", "abc", 0, 0, rights, manySteps); r != want {
					t.Errorf("P6: Run(%q, rights %d) = %+v, want %+v", src, rights, r, want)
				}
			}
		}
		src := strings.Repeat("1 ", needs(word)) + strings.Replace(inForm(word), "while", "while 0", 1)
		if r := grader.Run(src, "", "abc", 0, 0, allRights, 100); r.Err != grader.OK {
			t.Errorf("P6: Run(%q) = %+v, want no error", src, r)
		}
	}
}

func TestErrOver(t *testing.T) {
	full := strings.Repeat("1 ", 16)
	for _, word := range []string{"1", "dup", "over", "key"} {
		want := grader.Result{Image: "abc", Used: 16, Err: grader.ErrOver}
		if r := grader.Run(full+word, "x", "abc", 0, 0, 0, manySteps); r != want {
			t.Errorf("P6: Run(%q) = %+v, want %+v", full+word, r, want)
		}
		if r := grader.Run(full+"drop "+word, "x", "abc", 0, 0, allRights, manySteps); r != (grader.Result{Image: "abc", Used: 18}) {
			t.Errorf("P6: Run(%q) = %+v, want no error", full+"drop "+word, r)
		}
	}
	for _, word := range strings.Fields("drop swap + - * / mod and or xor = < @ ! emit mark") {
		if r := grader.Run(full+word, "", "abc", 0, 0, allRights, manySteps); r.Err != grader.OK || r.Used != 17 {
			t.Errorf("P6: Run(%q) = %+v, want no error", full+word, r)
		}
	}
	if r := grader.Run(": a 1 ; "+full+"a", "", "", 0, 0, 0, manySteps); r != (grader.Result{Used: 17, Err: grader.ErrOver}) {
		t.Errorf("P6: a number in a call on a full stack: %+v", r)
	}
}

func TestErrDeep(t *testing.T) {
	deep := ": f 1 - dup if recurse then ; "
	if r := grader.Run(deep+"12 f mark", "", "", 0, 0, allRights, manySteps); r != (grader.Result{Used: 1 + 12*6 + 1}) {
		t.Errorf("P6: 12 calls: %+v", r)
	}
	if r := grader.Run(deep+"13 f mark", "", "", 0, 0, allRights, manySteps); r != (grader.Result{Used: 1 + 12*5, Err: grader.ErrDeep}) {
		t.Errorf("P6: 13 calls: %+v", r)
	}
	if r := grader.Run(": a ; "+strings.Repeat("a ", 60), "", "", 0, 0, 0, manySteps); r != (grader.Result{Used: 120}) {
		t.Errorf("P6: calls that have returned: %+v", r)
	}
	if r := grader.Run(": a exit ; "+strings.Repeat("a ", 60), "", "", 0, 0, 0, manySteps); r != (grader.Result{Used: 120}) {
		t.Errorf("P6: calls that have returned by exit: %+v", r)
	}
	chain := ": a ; "
	for _, name := range strings.Split("bcdefghijklm", "") {
		chain += ": " + name + " " + string(name[0]-1) + " ; "
	}
	if r := grader.Run(chain+"l", "", "", 0, 0, 0, manySteps); r != (grader.Result{Used: 24}) {
		t.Errorf("P6: a chain of 12 names: %+v", r)
	}
	if r := grader.Run(chain+"m", "", "", 0, 0, 0, manySteps); r != (grader.Result{Used: 12, Err: grader.ErrDeep}) {
		t.Errorf("P6: a chain of 13 names: %+v", r)
	}
}

func TestErrDenied(t *testing.T) {
	for _, c := range []struct {
		src   string
		right int
		used  int
	}{{"65 emit", 1, 1}, {"key", 2, 0}, {"1 mark", 8, 1}} {
		for rights := -40; rights < 40; rights++ {
			r := grader.Run(c.src, "", "", 0, 0, rights, 9)
			if rights&c.right != 0 && (r.Err != grader.OK || r.Used != c.used+1) {
				t.Errorf("P6: Run(%q, rights %d) = %+v, want no error", c.src, rights, r)
			}
			if rights&c.right == 0 && r != (grader.Result{Used: c.used, Err: grader.ErrDenied}) {
				t.Errorf("P6: Run(%q, rights %d) = %+v, want ErrDenied", c.src, rights, r)
			}
		}
	}
	for _, src := range []string{"1 dup drop 2 swap over + - 3 * 4 / 5 mod 6 and 7 or 8 xor 9 = 10 <", "0 @ 3 !"} {
		if r := grader.Run(src, "", "kssu", 1, 2, 0, 99); r.Err != grader.OK {
			t.Errorf("P6: Run(%q) without rights: %+v", src, r)
		}
	}
}

func TestErrFull(t *testing.T) {
	loop := "begin 65 emit 1 - dup 0 = until mark"
	if r := grader.Run("64 "+loop, "", "", 0, 0, 9, manySteps); r != (grader.Result{Out: strings.Repeat("A", 64), Used: 64*8 + 2}) {
		t.Errorf("P6: 64 bytes of output: %+v", r)
	}
	if r := grader.Run("65 "+loop, "", "", 0, 0, 9, manySteps); r != (grader.Result{Out: strings.Repeat("A", 64), Used: 64*8 + 2, Err: grader.ErrFull}) {
		t.Errorf("P6: 65 bytes of output: %+v", r)
	}
	under := "64 begin 65 emit 1 - dup 0 = until drop emit"
	if r := grader.Run(under, "", "", 0, 0, 1, manySteps); r.Err != grader.ErrUnder {
		t.Errorf("P6: ErrUnder comes ahead of ErrFull: %+v", r)
	}
}

func TestErrZero(t *testing.T) {
	for _, src := range []string{"1 0 /", "0 0 /", "1 0 mod", "0 0 mod", "65535 0 mod"} {
		if r := grader.Run(src, "", "abc", 0, 0, allRights, 9); r != (grader.Result{Image: "abc", Used: 2, Err: grader.ErrZero}) {
			t.Errorf("P6: Run(%q) = %+v, want ErrZero", src, r)
		}
	}
	for _, src := range []string{"0 1 /", "0 1 mod", "1 0 +", "1 0 -", "1 0 *", "1 0 and", "1 0 <"} {
		if r := grader.Run(src, "", "abc", 0, 0, allRights, 9); r != (grader.Result{Image: "abc", Used: 3}) {
			t.Errorf("P6: Run(%q) = %+v, want no error", src, r)
		}
	}
}

func TestErrFence(t *testing.T) {
	for _, c := range []struct {
		src    string
		rights int
		ok     bool
	}{
		{"0 @", 0, true}, {"1 @", 0, true}, {"2 @", 0, false}, {"3 @", 0, false}, {"4 @", 0, true}, {"5 @", 0, true}, {"6 @", 0, false}, {"65535 @", 0, false},
		{"2 @", 11, false}, {"3 @", 27, false}, {"2 @", 4, true}, {"3 @", 4, true}, {"2 @", -1, true}, {"6 @", 15, false}, {"65535 @", -1, false},
		{"7 0 !", 15, false}, {"7 1 !", 15, false}, {"7 2 !", 15, false}, {"7 3 !", -1, false}, {"7 4 !", 0, true}, {"7 5 !", 0, true}, {"7 6 !", 15, false}, {"7 65535 !", 15, false},
		{"6 4 !", 0, true}, {"4 6 !", 15, false},
	} {
		r := grader.Run(c.src, "", "kkssuu", 2, 2, c.rights, 9)
		want := grader.Result{Image: "kkssuu", Used: len(strings.Fields(c.src)) - 1, Err: grader.ErrFence}
		if c.ok {
			want = grader.Result{Image: r.Image, Used: len(strings.Fields(c.src))}
		}
		if r != want {
			t.Errorf("P6: Run(%q, rights %d) = %+v, want %+v", c.src, c.rights, r, want)
		}
	}
	if r := grader.Run("0 @", "", "", 0, 0, allRights, 9); r != (grader.Result{Used: 1, Err: grader.ErrFence}) {
		t.Errorf("P6: @ over an empty image: %+v", r)
	}
	if r := grader.Run("0 0 !", "", "", 0, 0, allRights, 9); r != (grader.Result{Used: 2, Err: grader.ErrFence}) {
		t.Errorf("P6: ! over an empty image: %+v", r)
	}
}
