package grader_test

import (
	"strings"
	"testing"

	"grader/grader"
)

func hiding(sizes ...int) []grader.Test {
	tests := []grader.Test{}
	for _, size := range sizes {
		tests = append(tests, grader.Test{In: "in", Hidden: strings.Repeat("h", size)})
	}
	return tests
}

// mustOpen opens a grader that is not refused.
func mustOpen(t *testing.T, checker string, tests []grader.Test, rights int, fuel int) *grader.Grader {
	t.Helper()
	g, e, at := grader.Open(checker, tests, rights, fuel)
	if g == nil || e != grader.OK || at != 0 {
		t.Fatalf("P11: Open(%q, %q, rights %d, fuel %d) = %v, %d, %d", checker, tests, rights, fuel, g, e, at)
	}
	return g
}

// mustSubmit hands in a program that is not refused.
func mustSubmit(t *testing.T, g *grader.Grader, src string) string {
	t.Helper()
	transcript, e, at := g.Submit(src)
	if e != grader.OK || at != 0 {
		t.Fatalf("P12: Submit(%q) = %q, %d, %d", src, transcript, e, at)
	}
	return transcript
}

func TestOpenAccepts(t *testing.T) {
	for _, c := range []struct {
		checker string
		tests   []grader.Test
		fuel    int
		lines   int
	}{
		{"", nil, 0, 0}, {"", []grader.Test{}, 10000, 0}, {"1 mark", hiding(0), -1, 1}, {"1 mark", hiding(32), -1 << 63, 1},
		{"1 mark", hiding(32, 32, 32, 32, 32, 32), 10000, 6}, {strings.Repeat(" ", 400), hiding(1, 2), 5, 2},
		{"", []grader.Test{{In: strings.Repeat("i", 100000)}}, 5, 1},
	} {
		for _, rights := range []int{0, 15, 16, -1, -1 << 63, 1<<63 - 1} {
			g := mustOpen(t, c.checker, c.tests, rights, c.fuel)
			transcript := mustSubmit(t, g, "")
			if transcript != strings.Repeat("0 0 0:\n", c.lines) {
				t.Errorf("P12: %d tests: Submit = %q", len(c.tests), transcript)
			}
			if strings.Count(g.Marks(), "\n") != c.lines {
				t.Errorf("P13: %d tests: Marks = %q", len(c.tests), g.Marks())
			}
		}
	}
}

func TestOpenRefuses(t *testing.T) {
	for _, c := range []struct {
		checker string
		tests   []grader.Test
		fuel    int
		e       grader.Errno
		at      int
	}{
		{"", hiding(0, 0, 0, 0, 0, 0, 0), 9, grader.ErrLong, 0}, {"", make([]grader.Test, 1000), 9, grader.ErrLong, 0},
		{"", hiding(33), 9, grader.ErrLong, 0}, {"", hiding(0, 0, 33), 9, grader.ErrLong, 0}, {"", hiding(33, 0), 9, grader.ErrLong, 0}, {"", hiding(0, 32, 32, 0, 0, 33), 9, grader.ErrLong, 0},
		{"", nil, 10001, grader.ErrLong, 0}, {"", nil, 1<<63 - 1, grader.ErrLong, 0},
		{strings.Repeat(" ", 401), nil, 9, grader.ErrLong, 0}, {strings.Repeat("foo ", 101), nil, 9, grader.ErrLong, 0},
		{"1 foo", nil, 9, grader.ErrWord, 2}, {"  65536", hiding(1), 9, grader.ErrWord, 2}, {"foo", nil, 0, grader.ErrWord, 0},
		{"1 mark then", hiding(1), 9, grader.ErrNest, 7}, {"1 if 2 ", nil, -9, grader.ErrNest, 7}, {": 5 ;", nil, 9, grader.ErrName, 2}, {"1 :", nil, 9, grader.ErrName, 3},
		// What stands first in the promise is answered first.
		{"1 foo", hiding(0, 0, 0, 0, 0, 0, 0), 9, grader.ErrLong, 0}, {"1 foo", hiding(33), 9, grader.ErrLong, 0}, {"1 foo", nil, 10001, grader.ErrLong, 0},
	} {
		g, e, at := grader.Open(c.checker, c.tests, 15, c.fuel)
		if e != c.e || at != c.at {
			t.Errorf("P11: Open(%.20q, %d tests, fuel %d) = %d, %d, want %d, %d", c.checker, len(c.tests), c.fuel, e, at, c.e, c.at)
		}
		if g == nil {
			t.Fatalf("P1: Open(%.20q, %d tests, fuel %d) answers no Grader", c.checker, len(c.tests), c.fuel)
		}
		for _, src := range []string{"", "1", "1 2 3 nope", "then", ":", "1 mark", strings.Repeat(" ", 401), "\xff"} {
			transcript, e, at := g.Submit(src)
			if transcript != "" || e != c.e || at != c.at {
				t.Errorf("P1: Submit(%.20q) behind Open's error %d, %d = %q, %d, %d", src, c.e, c.at, transcript, e, at)
			}
			if g.Marks() != "" {
				t.Errorf("P13: Marks() = %q, but no Submit answered OK", g.Marks())
			}
		}
	}
}

// P11: the Grader goes by the tests as they were at Open.
func TestOpenKeepsTheTests(t *testing.T) {
	const checker = "2 @ @ mark"
	tests := []grader.Test{{In: "a", Hidden: "A"}, {In: "b", Hidden: "B"}, {In: "c", Hidden: "C"}}
	g := mustOpen(t, checker, tests[:2], allRights, 50)
	const transcript, marks = "0 2 1:a\n0 2 1:b\n", "65 0\n66 0\n"
	for i, change := range [][]grader.Test{{{"a", "A"}, {"b", "B"}}, {{"x", "XX"}, {"y", ""}}, {{"", strings.Repeat("Z", 33)}, {}}} {
		copy(tests, change)
		if got := mustSubmit(t, g, "key emit"); got != transcript || g.Marks() != marks {
			t.Errorf("P11: behind change %d: %q, %q, want %q, %q", i, got, g.Marks(), transcript, marks)
		}
	}
	_ = append(tests[:1], grader.Test{In: "q", Hidden: "Q"})
	if got := mustSubmit(t, g, "key emit"); got != transcript || g.Marks() != marks {
		t.Errorf("P11: behind an append: %q, %q", got, g.Marks())
	}
}

func TestNoCallChangesTheTests(t *testing.T) {
	list := []grader.Test{{"a", "A"}, {"b", "BB"}, {"c", "CCC"}, {"d", "D"}}
	want := [4]grader.Test(list)
	opened := list[:3]
	g := mustOpen(t, "key 2 @ ! 1 mark", opened, allRights, 50)
	for _, src := range []string{"key emit", "65 4 ! 66 10 !", "65 40 !", "nope", "begin 0 until"} {
		g.Submit(src)
		g.Marks()
	}
	grader.Open("nope", opened, 0, 0)
	grader.Open("", opened, 0, 10001)
	if [4]grader.Test(list) != want {
		t.Errorf("P11: the list is now %q, want %q", list, want)
	}
}

// P1: a Grader that Open did not make has no tests.
func TestGraderThatWasNotOpened(t *testing.T) {
	for _, g := range []*grader.Grader{nil, {}} {
		if transcript, e, at := g.Submit("1"); transcript != "" || e != grader.OK || at != 0 || g.Marks() != "" {
			t.Errorf("P1: Submit = %q, %d, %d, Marks = %q", transcript, e, at, g.Marks())
		}
		if transcript, e, at := g.Submit("1 foo"); transcript != "" || e != grader.ErrWord || at != 2 || g.Marks() != "" {
			t.Errorf("P1: Submit = %q, %d, %d, Marks = %q", transcript, e, at, g.Marks())
		}
	}
}
