package grader_test

import (
	"math/rand"
	"strings"
	"testing"

	"grader/grader"
)

type codeCase struct {
	code string
	e    grader.Errno
	at   int
}

func verifyAll(t *testing.T, cases []codeCase) {
	t.Helper()
	for _, c := range cases {
		if e, at := grader.Verify(c.code); e != c.e || at != c.at {
			t.Errorf("P8: Verify(%.40q) = %d, %d, want %d, %d", c.code, e, at, c.e, c.at)
		}
	}
}

func TestVerifyEveryByte(t *testing.T) {
	for b := range 256 {
		op := string([]byte{byte(b)})
		alone, halted, jumped := grader.ErrCode, grader.ErrCode, grader.ErrCode
		switch {
		case b == 0 || b == 5:
			alone, halted = grader.OK, grader.OK
		case b == 1, b == 3, b == 4:
			halted = grader.OK
		case b == 2:
			halted, jumped = grader.OK, grader.OK
		case b >= 16 && b <= 34:
			halted = grader.OK
		}
		verifyAll(t, []codeCase{{op, alone, 0}, {op + "\x00\x00\x00", halted, 0}})
		if b >= 1 && b <= 4 {
			verifyAll(t, []codeCase{{op + "\x00", grader.ErrCode, 0}, {op + "\x00\x00", jumped, 0}, {"\x00\x10" + op, grader.ErrCode, 2}, {"\x00\x10" + op + "\x00", grader.ErrCode, 2}})
		}
	}
}

func TestVerifyTargets(t *testing.T) {
	long := "\x02\x01\x00" + strings.Repeat("\x10", 253)
	for _, op := range []string{"\x02", "\x03", "\x04"} {
		verifyAll(t, []codeCase{
			{op + "\x00\x03\x00", grader.OK, 0}, {op + "\x00\x00\x00", grader.OK, 0},
			{op + "\x00\x01\x00", grader.ErrCode, 0}, {op + "\x00\x02\x00", grader.ErrCode, 0}, {op + "\x00\x04\x00", grader.ErrCode, 0}, {op + "\xff\xff\x00", grader.ErrCode, 0}, {op + "\x03\x00\x00", grader.ErrCode, 0},
			{"\x10\x01\x00\x00" + op + "\x00\x01\x05", grader.OK, 0}, {"\x10\x01\x00\x00" + op + "\x00\x02\x05", grader.ErrCode, 4}, {"\x10\x01\x00\x00" + op + "\x00\x05\x05", grader.ErrCode, 4},
			{op + "\x00\x03" + op + "\x00\x06\x00", grader.OK, 0}, {op + "\x00\x03" + op + "\x00\x07\x00", grader.ErrCode, 3}, {op + "\x00\x07" + op + "\x00\x08\x00", grader.ErrCode, 0},
		})
	}
	verifyAll(t, []codeCase{
		{"\x01\xff\xff\x00", grader.OK, 0}, {"\x01\x00\x01\x05", grader.OK, 0},
		{long + "\x00", grader.OK, 0}, {long, grader.ErrCode, 0}, {"\x02\x01\x01" + long[3:] + "\x00", grader.ErrCode, 0}, {"\x02\x00\x01" + long[3:] + "\x00", grader.ErrCode, 0},
	})
}

func TestVerifyLastInstruction(t *testing.T) {
	verifyAll(t, []codeCase{
		{"", grader.ErrCode, 0}, {"\x00\x10", grader.ErrCode, 1}, {"\x05\x01\x00\x00", grader.ErrCode, 1}, {"\x00\x03\x00\x00", grader.ErrCode, 1}, {"\x00\x10\x04\x00\x00", grader.ErrCode, 2},
		{"\x10\x02\x00\x00", grader.OK, 0}, {"\x10\x05", grader.OK, 0}, {"\x10\x00", grader.OK, 0},
		{"\x10\x01\x00\x00", grader.ErrCode, 1}, {"\x10\x01\x05\x05", grader.ErrCode, 1}, {"\x22\x22\x22", grader.ErrCode, 2},
	})
}

func TestVerifyOrder(t *testing.T) {
	verifyAll(t, []codeCase{
		{"\x02\x00\x01\x10\x06", grader.ErrCode, 4}, {"\x02\x00\x01\x10\x01\x00", grader.ErrCode, 4}, {"\x04\x00\x01\x10", grader.ErrCode, 0}, {"\x10\x03\x00\x02", grader.ErrCode, 1},
		{"\x06\x06", grader.ErrCode, 0}, {"\x00\x06\x07", grader.ErrCode, 1},
		{strings.Repeat("\x10", 1023) + "\x00", grader.OK, 0}, {strings.Repeat("\x10", 1024), grader.ErrCode, 1023}, {strings.Repeat("\x06", 1024), grader.ErrCode, 0},
		{strings.Repeat("\x10", 1025), grader.ErrLong, 0}, {strings.Repeat("\x06", 1025), grader.ErrLong, 0}, {strings.Repeat("\x00", 1000000), grader.ErrLong, 0},
		{strings.Repeat("\x00", 1020) + "\x02\x03\xfc\x00", grader.OK, 0}, {strings.Repeat("\x00", 1020) + "\x02\x03\xfd\x00", grader.ErrCode, 1020}, {strings.Repeat("\x00", 1020) + "\x02\x04\x00\x00", grader.ErrCode, 1020},
	})
}

func TestVerifyAgreesWithTheSecondReading(t *testing.T) {
	r := rand.New(rand.NewSource(4))
	fine := 0
	for range 60000 {
		code := anyCode(r)
		wantE, wantAt := oracleVerify(code)
		e, at := grader.Verify(code)
		if e != wantE || at != wantAt {
			t.Fatalf("P8: Verify(%q) = %d, %d, want %d, %d", code, e, at, wantE, wantAt)
		}
		if e == grader.OK {
			fine++
		}
	}
	if fine < 1000 || fine > 50000 {
		t.Errorf("%d of the codes are whole: the comparison tells little", fine)
	}
}

// P8 and P9 together: code that Verify allows never comes to a place without an instruction.
func TestVerifiedCodeNeverGoesAstray(t *testing.T) {
	r := rand.New(rand.NewSource(5))
	for range 60000 {
		code := anyCode(r)
		if e, _ := grader.Verify(code); e != grader.OK {
			continue
		}
		if got := grader.Exec(code, "in", "kssuuu", 1, 2, allRights, 200); got.Err == grader.ErrCode {
			t.Fatalf("P8: Exec(%q) = %+v, though Verify answers OK", code, got)
		}
	}
}
