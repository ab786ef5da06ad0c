package grader_test

import (
	"fmt"
	"math/rand"
	"strings"
	"testing"

	"grader/grader"
)

const noLook = 11

type submitCase struct{ src, transcript, marks string }

// submitAll hands in one program after the other to one Grader.
func submitAll(t *testing.T, promise string, g *grader.Grader, cases []submitCase) {
	t.Helper()
	for _, c := range cases {
		if transcript := mustSubmit(t, g, c.src); transcript != c.transcript {
			t.Errorf("%s: Submit(%q) = %q, want %q", promise, c.src, transcript, c.transcript)
		}
		if marks := g.Marks(); marks != c.marks {
			t.Errorf("%s: Marks() behind %q = %q, want %q", promise, c.src, marks, c.marks)
		}
	}
}

func TestTranscriptLines(t *testing.T) {
	g := mustOpen(t, "", []grader.Test{{In: "ab"}, {In: ""}}, allRights, 300)
	const marks = "0 0\n0 0\n"
	full := strings.Repeat("*", 64)
	submitAll(t, "P12", g, []submitCase{
		{"", "0 0 0:\n0 0 0:\n", marks},
		{": a 1 ;", "0 0 0:\n0 0 0:\n", marks},
		{"key key emit emit", "0 4 2:ba\n0 4 2:\xff\xff\n", marks},
		{"10 emit 58 emit 32 emit", "0 6 3:\n: \n0 6 3:\n: \n", marks},
		{"0 emit 255 emit 256 emit", "0 6 3:\x00\xff\x00\n0 6 3:\x00\xff\x00\n", marks},
		{"65 emit 1 0 /", "12 4 1:A\n12 4 1:A\n", marks},
		{"drop", "7 0 0:\n7 0 0:\n", marks},
		{"begin 42 emit 0 until", "11 257 64:" + full + "\n11 257 64:" + full + "\n", marks},
		{"begin 0 until", "6 300 0:\n6 300 0:\n", marks},
		{"1 228 !", "13 2 0:\n13 2 0:\n", marks},
		{"key 97 = if 66 emit then", "0 6 1:B\n0 4 0:\n", marks},
	})
}

func TestSubmitRefuses(t *testing.T) {
	g := mustOpen(t, "key mark", []grader.Test{{In: "ab", Hidden: "x"}}, allRights, 20)
	for _, before := range []submitCase{{"", "", ""}, {"65 emit", "0 2 1:A\n", "65 0\n"}, {"1 emit 1 0 /", "12 4 1:\x01\n", "1 0\n"}, {"", "0 0 0:\n", "65535 0\n"}} {
		if before.transcript != "" {
			submitAll(t, "P12", g, []submitCase{before})
		}
		for _, c := range []struct {
			src string
			e   grader.Errno
			at  int
		}{
			{"66 emit foo", grader.ErrWord, 8}, {"then", grader.ErrNest, 0}, {"1 if", grader.ErrNest, 4}, {": ;", grader.ErrName, 2}, {":", grader.ErrName, 1}, {strings.Repeat(" ", 401), grader.ErrLong, 0},
		} {
			transcript, e, at := g.Submit(c.src)
			if transcript != "" || e != c.e || at != c.at {
				t.Errorf("P12: Submit(%.20q) = %q, %d, %d, want %d, %d", c.src, transcript, e, at, c.e, c.at)
			}
			if g.Marks() != before.marks {
				t.Errorf("P13: Marks() behind a refused Submit = %q, want %q as before", g.Marks(), before.marks)
			}
		}
	}
}

// imageLists are tests with hidden bytes of many sizes, the least and the greatest among them.
func imageLists() [][]grader.Test {
	most := []grader.Test{}
	for i := range 6 {
		most = append(most, grader.Test{Hidden: strings.Repeat(string(rune('A'+i)), 31) + "!"})
	}
	return [][]grader.Test{
		{{}}, {{Hidden: "\x00\xff"}}, {{Hidden: ""}, {Hidden: "abc"}, {Hidden: ""}, {Hidden: "d"}}, {{}, {}, {}, {}, {}, {}}, most,
	}
}

// oracleImage is the image of P12.
func oracleImage(tests []grader.Test, number int) string {
	ahead, all := "", ""
	for i, test := range tests {
		if i < number {
			ahead += test.Hidden
		}
		all += test.Hidden
	}
	return string([]byte{byte(number), byte(len(tests)), byte(4 + len(ahead)), byte(len(tests[number].Hidden))}) + all + strings.Repeat("\x00", 32)
}

// P12: every byte of every image, read with the right to look, and where it may be read and written without.
func TestImageOfATest(t *testing.T) {
	for _, tests := range imageLists() {
		look := mustOpen(t, "", tests, allRights, 50)
		blind := mustOpen(t, "", tests, noLook, 50)
		size := len(oracleImage(tests, 0))
		for place := range size + 2 {
			read, fenced, written := "", "", ""
			for i := range tests {
				image := oracleImage(tests, i)
				secret := place >= 4 && place < size-32
				read += either(place < size, "0 3 1:"+(image + "  ")[place:place+1]+"\n", "13 1 0:\n")
				fenced += either(place < size && !secret, "0 3 1:"+(image + "  ")[place:place+1]+"\n", "13 1 0:\n")
				written += either(place < size && place >= size-32, "0 3 0:\n", "13 2 0:\n")
			}
			fetch, store := fmt.Sprintf("%d @ emit", place), fmt.Sprintf("7 %d !", place)
			for _, c := range []struct {
				g         *grader.Grader
				src, want string
			}{{look, fetch, read}, {blind, fetch, fenced}, {look, store, written}, {blind, store, written}} {
				if got := mustSubmit(t, c.g, c.src); got != c.want {
					t.Errorf("P12: %d tests: Submit(%q) = %q, want %q", len(tests), c.src, got, c.want)
				}
			}
		}
	}
}

func either(first bool, a, b string) string {
	if first {
		return a
	}
	return b
}

// P12: each test has a new image, whatever programs and checkers have written ahead of it.
func TestImageIsNewForEveryTest(t *testing.T) {
	g := mustOpen(t, "6 @ mark 99 6 ! 98 7 !", []grader.Test{{In: "a", Hidden: "h"}, {In: "b", Hidden: "i"}}, noLook, 50)
	submitAll(t, "P12", g, []submitCase{
		{"6 @ emit 7 @ emit key 6 !", "0 9 2:\x00\x00\n0 9 2:\x00\x00\n", "97 0\n98 0\n"},
		{"6 @ emit 7 @ emit", "0 6 2:\x00\x00\n0 6 2:\x00\x00\n", "0 0\n0 0\n"},
	})
}

// P12: with these rights and this fuel.
func TestRightsAndFuelOfASubmit(t *testing.T) {
	tests := []grader.Test{{In: "a", Hidden: "h"}}
	words := []struct {
		right   int
		src     string
		made    string
		refused string
		cutOff  string
	}{
		{1, "65 emit", "0 2 1:A\n", "10 1 0:\n", "6 1 0:\n"},
		{2, "key drop", "0 2 0:\n", "10 0 0:\n", "6 1 0:\n"},
		{4, "4 @ drop", "0 3 0:\n", "13 1 0:\n", "6 1 0:\n"},
		{8, "5 mark", "0 2 0:\n", "10 1 0:\n", "6 1 0:\n"},
	}
	for rights := -16; rights < 48; rights++ {
		g := mustOpen(t, "9 mark", tests, rights, 50)
		for _, w := range words {
			want := either(rights&w.right != 0, w.made, w.refused)
			submitAll(t, "P12", g, []submitCase{{w.src, want, "9 0\n"}})
		}
	}
	for _, w := range words {
		g := mustOpen(t, "", tests, allRights, 1)
		submitAll(t, "P12", g, []submitCase{{w.src, w.cutOff, "0 0\n"}})
		for _, fuel := range []int{0, -1, -1 << 63} {
			g := mustOpen(t, "", tests, allRights, fuel)
			submitAll(t, "P12", g, []submitCase{{w.src, "6 0 0:\n", "0 0\n"}, {"", "0 0 0:\n", "0 0\n"}})
		}
	}
	g := mustOpen(t, "", tests, allRights, 10000)
	submitAll(t, "P12", g, []submitCase{{"begin 0 until", "6 10000 0:\n", "0 0\n"}})
}

func TestCheckerSeesWhatTheProgramLeft(t *testing.T) {
	tests := []grader.Test{{In: "in", Hidden: "hid"}, {In: "", Hidden: "x"}}
	for _, c := range []struct{ checker, src, marks string }{
		// Its input is the output, from the first byte on, not what the test put in.
		{"key mark", "", "65535 0\n65535 0\n"}, {"key mark", "key drop 65 emit 66 emit", "65 0\n65 0\n"}, {"key drop key mark", "65 emit 66 emit", "66 0\n66 0\n"},
		{"key mark", "65 emit 1 0 /", "65 0\n65 0\n"}, {"key drop key mark", "65 emit", "65535 0\n65535 0\n"},
		// The image is the one that the program left, also when it failed.
		{"8 @ mark", "77 8 !", "77 0\n77 0\n"}, {"39 @ mark", "77 39 ! drop", "77 0\n77 0\n"}, {"8 @ mark", "", "0 0\n0 0\n"}, {"8 @ mark", "77 7 !", "0 0\n0 0\n"},
		// It may look, and write where the student may, and no further.
		{"4 @ mark", "", "104 0\n104 0\n"}, {"2 @ @ mark", "", "104 0\n120 0\n"}, {"0 @ 100 * 1 @ 10 * + 3 @ + mark", "", "23 0\n121 0\n"},
		{"40 @ mark", "", "0 13\n0 13\n"}, {"5 mark 1 7 !", "", "5 13\n5 13\n"}, {"5 mark 1 3 !", "", "5 13\n5 13\n"}, {"6 8 ! 8 @ mark", "7 8 !", "6 0\n6 0\n"},
		// Nothing else of the program's run is there: no stack, no definitions, no mark.
		{"mark", "1 2 3", "0 7\n0 7\n"}, {"", "5 mark", "0 0\n0 0\n"}, {"dup", ": dup 1 ; 2", "0 7\n0 7\n"},
		{"1 2 3", "dup", "0 0\n0 0\n"},
	} {
		for _, rights := range []int{15, 11} {
			g := mustOpen(t, c.checker, tests, rights, 60)
			mustSubmit(t, g, c.src)
			if g.Marks() != c.marks {
				t.Errorf("P13: the checker %q behind %q: Marks() = %q, want %q", c.checker, c.src, g.Marks(), c.marks)
			}
		}
	}
}

func TestMarksLines(t *testing.T) {
	tests := []grader.Test{{In: "abc", Hidden: "x"}}
	for _, c := range []struct {
		checker string
		fuel    int
		marks   string
	}{
		{"", 0, "0 0\n"}, {": a 1 ;", 0, "0 0\n"}, {"1 mark", 0, "0 6\n"}, {"1 mark", 1, "0 6\n"}, {"1 mark", 2, "1 0\n"}, {"1 mark", -5, "0 6\n"},
		{"65535 mark", 9, "65535 0\n"}, {"1 mark 2 mark", 9, "2 0\n"}, {"1 mark 2 mark", 3, "1 6\n"}, {"10 mark 0 mark", 9, "0 0\n"},
		{"7 mark drop", 9, "7 7\n"}, {"7 mark 1 0 mod", 9, "7 12\n"}, {"7 mark begin 1 0 until", 99, "7 8\n"}, {": a recurse ; 7 mark a", 99, "7 9\n"},
		{"begin 65 emit 0 until", 300, "0 11\n"}, {"7 mark begin 0 until", 10000, "7 6\n"}, {"65 emit 10 emit 5 mark", 9, "5 0\n"},
	} {
		for _, rights := range []int{0, 1, 2, 4, 8, 15} {
			g := mustOpen(t, c.checker, tests, rights, c.fuel)
			if g.Marks() != "" {
				t.Errorf("P13: Marks() ahead of the first Submit = %q", g.Marks())
			}
			// The program needs no fuel and no right: what the checker has is its own.
			submitAll(t, "P13", g, []submitCase{{"", "0 0 0:\n", c.marks}})
		}
	}
}

// P13: the checker has as much fuel as the program, and not what the program left of it.
func TestCheckerHasItsOwnFuel(t *testing.T) {
	g := mustOpen(t, "begin 1 0 @ + mark 0 until", []grader.Test{{}, {}}, 0, 9)
	submitAll(t, "P13", g, []submitCase{{"begin 0 until", "6 9 0:\n6 9 0:\n", "1 6\n2 6\n"}})
	g = mustOpen(t, "1 2 3 4 + + + mark", []grader.Test{{}}, 0, 8)
	submitAll(t, "P13", g, []submitCase{{"begin 0 until", "6 8 0:\n", "10 0\n"}, {"1", "0 1 0:\n", "10 0\n"}})
}

// P13: Marks is of the last Submit that answered OK, however often it is asked.
func TestMarksOfTheLastSubmit(t *testing.T) {
	g := mustOpen(t, "key mark", []grader.Test{{}, {}}, 1, 20)
	for _, c := range []struct{ src, marks string }{
		{"nope", ""}, {"65 emit", "65 0\n65 0\n"}, {"if", "65 0\n65 0\n"}, {"0 @ 7 + emit", "7 0\n8 0\n"}, {":", "7 0\n8 0\n"}, {"drop", "65535 0\n65535 0\n"},
	} {
		g.Submit(c.src)
		for range 2 {
			if g.Marks() != c.marks {
				t.Errorf("P13: Marks() behind %q = %q, want %q", c.src, g.Marks(), c.marks)
			}
		}
	}
}

// anyTests answers a list of tests, and another one that differs in nothing but what the hidden bytes are.
func anyTests(r *rand.Rand) ([]grader.Test, []grader.Test) {
	first, second := []grader.Test{}, []grader.Test{}
	for range r.Intn(7) {
		in := anyBytes(r, r.Intn(4))
		size := r.Intn(4) * r.Intn(11)
		first = append(first, grader.Test{In: in, Hidden: anyBytes(r, size)})
		second = append(second, grader.Test{In: in, Hidden: anyBytes(r, size)})
	}
	return first, second
}

func anyBytes(r *rand.Rand, size int) string {
	bytes := make([]byte, size)
	for i := range bytes {
		bytes[i] = byte(r.Intn(256))
	}
	return string(bytes)
}

// P14: without the right to look the transcript does not depend on the hidden bytes, nor on the checker or
// what was handed in before; with it, it does.
func TestTranscriptTellsNothingHidden(t *testing.T) {
	r := rand.New(rand.NewSource(6))
	told := 0
	for range 6000 {
		src := wholeProgram(r)
		a, b := anyTests(r)
		rights, fuel := r.Intn(32), r.Intn(120)
		first := mustOpen(t, "1 mark", a, rights, fuel)
		second := mustOpen(t, "2 @ @ mark 65 emit key 5 + 40 !", b, rights, fuel)
		p, e, _ := first.Submit(src)
		second.Submit(wholeProgram(r))
		q, f, _ := second.Submit(src)
		if e != f || e == grader.OK && p == "" && len(a) > 0 {
			t.Fatalf("P14: Submit(%q): errors %d and %d, %q", src, e, f, p)
		}
		if p != q && rights&4 == 0 {
			t.Fatalf("P14: Submit(%q), rights %d, fuel %d, tests %q and %q: %q and %q", src, rights, fuel, a, b, p, q)
		}
		if p != q {
			told++
		}
	}
	if told == 0 {
		t.Errorf("the programs never looked: the test proves nothing")
	}
}

// P14: words that look, at every hidden place, in the ways in which a byte could come into the transcript.
func TestNoWayToLook(t *testing.T) {
	for place := 4; place < 4+6; place++ {
		for _, form := range []string{"%d @ emit", "%d @ if 1 then", "begin %d @ until", "1 %d @ /", "%d @ 20 !", "%d @ @", "1 %d !", ": a %d @ if recurse then ; a", "%d dup @ drop begin 0 until"} {
			src := fmt.Sprintf(form, place)
			a := mustOpen(t, "1 mark", []grader.Test{{"q", "\x00\x00\x00"}, {"", ""}, {"r", "\x00\x01\x02"}}, noLook, 70)
			b := mustOpen(t, "1 mark", []grader.Test{{"q", "two"}, {"", ""}, {"r", "\xff\x00\x09"}}, noLook, 70)
			p, q := mustSubmit(t, a, src), mustSubmit(t, b, src)
			if p != q || strings.Count(p, "13 ") != 3 {
				t.Errorf("P14: Submit(%q): %q and %q", src, p, q)
			}
		}
	}
}

// P2: what is done with one Grader makes no difference to another one.
func TestGradersShareNothing(t *testing.T) {
	tests := []grader.Test{{"a", "A"}, {"b", "B"}}
	first := mustOpen(t, "2 @ @ mark", tests, noLook, 50)
	second := mustOpen(t, "key mark", tests[1:], allRights, 20)
	if first.Marks() != "" || second.Marks() != "" {
		t.Errorf("P13: marks ahead of a Submit: %q, %q", first.Marks(), second.Marks())
	}
	mustSubmit(t, first, "key emit")
	if second.Marks() != "" {
		t.Errorf("P2: the other Grader's marks: %q", second.Marks())
	}
	for range 3 {
		submitAll(t, "P2", second, []submitCase{{": a 4 @ emit ; a", "0 5 1:B\n", "66 0\n"}})
		if first.Marks() != "65 0\n66 0\n" {
			t.Errorf("P2: Marks() = %q", first.Marks())
		}
		grader.Open("nope", tests, 0, 0)
		submitAll(t, "P2", first, []submitCase{{"key emit", "0 2 1:a\n0 2 1:b\n", "65 0\n66 0\n"}})
		if transcript, e, at := first.Submit("a"); transcript != "" || e != grader.ErrWord || at != 0 {
			t.Errorf("P2: a name of the other program: %q, %d, %d", transcript, e, at)
		}
		if second.Marks() != "66 0\n" {
			t.Errorf("P2: Marks() = %q", second.Marks())
		}
	}
}

// oracleSubmit is a second reading of P12 and P13 over the second reading of the language.
func oracleSubmit(checker string, tests []grader.Test, rights, fuel int, src string) (string, string) {
	transcript, marks := "", ""
	for i, test := range tests {
		image := oracleImage(tests, i)
		r := oracleRun(src, test.In, image, 4, len(image)-36, rights, fuel)
		transcript += fmt.Sprintf("%d %d %d:%s\n", r.Err, r.Used, len(r.Out), r.Out)
		c := oracleRun(checker, r.Out, r.Image, 4, len(image)-36, 15, fuel)
		marks += fmt.Sprintf("%d %d\n", c.Mark, c.Err)
	}
	return transcript, marks
}

func TestSubmitAgreesWithTheSecondReading(t *testing.T) {
	r := rand.New(rand.NewSource(7))
	ran, refused := 0, 0
	for range 3000 {
		checker := wholeProgram(r)
		tests, _ := anyTests(r)
		rights, fuel := r.Intn(32), r.Intn(300)-2
		_, wantE, wantAt := oracleCheck(checker)
		g, e, at := grader.Open(checker, tests, rights, fuel)
		if e != wantE || at != wantAt {
			t.Fatalf("P11: Open(%q) = %d, %d, want %d, %d", checker, e, at, wantE, wantAt)
		}
		marks := ""
		for range 3 {
			src := wholeProgram(r)
			_, wantE, wantAt := oracleCheck(src)
			want := ""
			if e != grader.OK {
				wantE, wantAt = e, at
			}
			if wantE == grader.OK {
				want, marks = oracleSubmit(checker, tests, rights, fuel, src)
			}
			got, gotE, gotAt := g.Submit(src)
			if got != want || gotE != wantE || gotAt != wantAt || g.Marks() != marks {
				t.Fatalf("P12, P13: Open(%q, %q, %d, %d), Submit(%q) = %q, %d, %d and Marks %q, want %q, %d, %d and %q", checker, tests, rights, fuel, src, got, gotE, gotAt, g.Marks(), want, wantE, wantAt, marks)
			}
			if gotE == grader.OK {
				ran++
			} else {
				refused++
			}
		}
	}
	if ran < 100 || refused < 100 {
		t.Errorf("programs run: %d, refused: %d: too few of one kind", ran, refused)
	}
}
