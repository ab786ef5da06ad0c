package grader_test

import (
	"math/rand"
	"strings"
	"testing"

	"grader/grader"
)

type execCase struct {
	code string
	want grader.Result
}

// execAll runs over the image "kssuuu": one byte of the kernel, two secret ones, three of the student.
func execAll(t *testing.T, rights int, fuel int, cases []execCase) {
	t.Helper()
	for _, c := range cases {
		if r := grader.Exec(c.code, "in", "kssuuu", 1, 2, rights, fuel); r != c.want {
			t.Errorf("P9: Exec(%q, rights %d, fuel %d) = %+v, want %+v", c.code, rights, fuel, r, c.want)
		}
	}
}

func TestExecRefuses(t *testing.T) {
	for _, c := range []struct{ code, image, fuel int }{{1025, 0, 9}, {1, 257, 9}, {1, 0, 10001}, {0, 257, 0}, {0, 0, 1<<63 - 1}, {1025, 257, 10001}} {
		r := grader.Exec(strings.Repeat("\x21", c.code), "in", strings.Repeat("i", c.image), 0, 0, allRights, c.fuel)
		if r != (grader.Result{Err: grader.ErrLong}) {
			t.Errorf("P9: %d bytes of code, %d of image, fuel %d: %+v, want ErrLong alone", c.code, c.image, c.fuel, r)
		}
	}
}

func TestExecAtItsLimits(t *testing.T) {
	image := strings.Repeat("i", 256)
	if r := grader.Exec("\x01\x00\x41\x01\x00\xff\x1f\x00", "", image, 255, 0, 0, 10000); r != (grader.Result{Image: image[:255] + "A", Used: 3}) {
		t.Errorf("P9: the greatest image: %+v", r)
	}
	if r := grader.Exec("\x02\x00\x00", "", "", 0, 0, 0, 10000); r != (grader.Result{Used: 10000, Err: grader.ErrFuel}) {
		t.Errorf("P9: the greatest fuel: %+v", r)
	}
	far := "\x02\x03\xff" + strings.Repeat("\x06", 1020)
	if r := grader.Exec(far+"\x00", "", "", 0, 0, 0, 9); r != (grader.Result{Used: 1}) {
		t.Errorf("P9: a halt at the last place of the longest code: %+v", r)
	}
	if r := grader.Exec(far, "", "", 0, 0, 0, 9); r != (grader.Result{Used: 1, Err: grader.ErrCode}) {
		t.Errorf("P9: a jump behind the end: %+v", r)
	}
	for _, fuel := range []int{0, -1, -1 << 63} {
		execAll(t, allRights, fuel, []execCase{{"\x00", grader.Result{Image: "kssuuu"}}, {"\x10", grader.Result{Image: "kssuuu", Err: grader.ErrFuel}}})
	}
}

func TestExecErrCode(t *testing.T) {
	image := "kssuuu"
	execAll(t, allRights, 9, []execCase{
		{"", grader.Result{Image: image, Err: grader.ErrCode}}, {"\x06", grader.Result{Image: image, Err: grader.ErrCode}}, {"\x0f", grader.Result{Image: image, Err: grader.ErrCode}}, {"\x23", grader.Result{Image: image, Err: grader.ErrCode}}, {"\xff\x00", grader.Result{Image: image, Err: grader.ErrCode}},
		{"\x01", grader.Result{Image: image, Err: grader.ErrCode}}, {"\x01\x00", grader.Result{Image: image, Err: grader.ErrCode}}, {"\x02\x00", grader.Result{Image: image, Err: grader.ErrCode}}, {"\x03", grader.Result{Image: image, Err: grader.ErrCode}}, {"\x04\x00", grader.Result{Image: image, Err: grader.ErrCode}},
		{"\x01\x00\x01", grader.Result{Image: image, Used: 1, Err: grader.ErrCode}}, {"\x21", grader.Result{Image: image, Used: 1, Err: grader.ErrCode}},
		{"\x02\x00\x04\x00\x06", grader.Result{Image: image, Used: 1, Err: grader.ErrCode}}, {"\x02\x7f\xff\x00", grader.Result{Image: image, Used: 1, Err: grader.ErrCode}}, {"\x02\x80\x00\x00", grader.Result{Image: image, Used: 1, Err: grader.ErrCode}},
		{"\x04\xff\xff\x00", grader.Result{Image: image, Used: 1, Err: grader.ErrCode}}, {"\x01\x00\x00\x03\x00\xff\x00", grader.Result{Image: image, Used: 2, Err: grader.ErrCode}},
		{"\x02\x00\x04\x05\x04\x00\x03", grader.Result{Image: image, Used: 3, Err: grader.ErrCode}},
	})
	execAll(t, allRights, 0, []execCase{{"", grader.Result{Image: image, Err: grader.ErrCode}}, {"\x06", grader.Result{Image: image, Err: grader.ErrCode}}, {"\x01\x00", grader.Result{Image: image, Err: grader.ErrCode}}, {"\x01\x00\x00", grader.Result{Image: image, Err: grader.ErrFuel}}})
	execAll(t, allRights, 1, []execCase{{"\x01\x00\x00", grader.Result{Image: image, Used: 1, Err: grader.ErrCode}}, {"\x01\x00\x00\x06", grader.Result{Image: image, Used: 1, Err: grader.ErrCode}}, {"\x01\x00\x00\x10", grader.Result{Image: image, Used: 1, Err: grader.ErrFuel}}})
}

// A run may go into the middle of an instruction, and never looks at what it does not come to.
func TestExecGoesWhereItIsLed(t *testing.T) {
	image := "kssuuu"
	execAll(t, allRights, 20, []execCase{
		{"\x02\x00\x01", grader.Result{Image: image, Used: 1}}, // the byte at 1 is a halt
		{"\x02\x00\x04\x01\x21\x22\x00", grader.Result{Image: image, Mark: 'i', Used: 3}},
		{"\x00\xff\xff", grader.Result{Image: image}}, {"\x02\x00\x05\xff\xff\x00", grader.Result{Image: image, Used: 1}},
		{"\x01\x00\x01\x03\xff\xff\x00", grader.Result{Image: image, Used: 2}}, {"\x01\xff\xff\x03\xff\xff\x00", grader.Result{Image: image, Used: 2}}, {"\x01\x00\x00\x03\x00\x07\x06\x00", grader.Result{Image: image, Used: 2}},
		{"\x01\x12\x34\x22\x00", grader.Result{Image: image, Mark: 0x1234, Used: 2}}, {"\x01\xff\xff\x22\x00", grader.Result{Image: image, Mark: 65535, Used: 2}}, {"\x01\x80\x00\x22\x00", grader.Result{Image: image, Mark: 32768, Used: 2}},
		{"\x04\x00\x06\x22\x00\x06\x01\x00\x09\x05", grader.Result{Image: image, Mark: 9, Used: 4}},
	})
}

func TestExecCallsAndReturns(t *testing.T) {
	image := "kssuuu"
	execAll(t, allRights, 40, []execCase{
		{"\x05", grader.Result{Image: image, Err: grader.ErrUnder}}, {"\x04\x00\x03\x05", grader.Result{Image: image, Used: 2, Err: grader.ErrUnder}},
		{"\x01\x00\x01\x05", grader.Result{Image: image, Used: 1, Err: grader.ErrUnder}},
		{"\x04\x00\x00", grader.Result{Image: image, Used: 12, Err: grader.ErrDeep}},
		{"\x04\x00\x04\x00\x00", grader.Result{Image: image, Used: 1}},
		{strings.Repeat("\x04\x00\x25", 12) + "\x00\x05", grader.Result{Image: image, Used: 24}},
	})
	execAll(t, allRights, 12, []execCase{{"\x04\x00\x00", grader.Result{Image: image, Used: 12, Err: grader.ErrFuel}}})
	execAll(t, allRights, 0, []execCase{{"\x05", grader.Result{Image: image, Err: grader.ErrFuel}}})
}

// Each instruction from 16 on is the word of the list at that place: with any stack, rights and fuel it answers as the word does.
func TestExecDoesAsTheWords(t *testing.T) {
	for i, word := range listedWords {
		for have := range 18 {
			for _, top := range []int{0, 1, 2, 4, 5, 300, 65535} {
				code, src := "", ""
				for n := range have {
					a := 7*n + 3
					if n == have-1 {
						a = top
					}
					code += string([]byte{1, byte(a >> 8), byte(a)})
					src += number(a) + " "
				}
				code += string([]byte{byte(16 + i)})
				src += word
				for used := min(have, 16); used > 0; used-- {
					code += "\x20"
					src += " emit"
				}
				for _, rights := range []int{0, 1, 2, 4, 8, 15} {
					for _, fuel := range []int{have, have + 1, 99} {
						want := oracleRun(src, "in", "kssuuu", 1, 2, rights, fuel)
						if got := grader.Exec(code+"\x00", "in", "kssuuu", 1, 2, rights, fuel); got != want {
							t.Fatalf("P9: Exec(%q, rights %d, fuel %d) = %+v, want as %q %+v", code, rights, fuel, got, src, want)
						}
					}
				}
			}
		}
	}
}

func TestExecAgreesWithTheSecondReading(t *testing.T) {
	r := rand.New(rand.NewSource(6))
	seen := [14]int{}
	for range 100000 {
		code := anyCode(r)
		in := strings.Repeat("\x00\x01a", r.Intn(3))
		kernel, secret, rights, fuel := r.Intn(6)-1, r.Intn(6)-1, r.Intn(32)|r.Intn(32), r.Intn(100)-2
		want := oracleExec(code, in, "kssuuu", kernel, secret, rights, fuel)
		got := grader.Exec(code, in, "kssuuu", kernel, secret, rights, fuel)
		if got != want {
			t.Fatalf("P9: Exec(%q, %q, kernel %d, secret %d, rights %d, fuel %d) = %+v, want %+v", code, in, kernel, secret, rights, fuel, got, want)
		}
		seen[got.Err]++
	}
	for _, e := range []grader.Errno{grader.OK, grader.ErrCode, grader.ErrFuel, grader.ErrUnder, grader.ErrOver, grader.ErrDeep, grader.ErrDenied, grader.ErrZero, grader.ErrFence} {
		if seen[e] < 20 {
			t.Errorf("the codes met the error %d only %d times", e, seen[e])
		}
	}
}
