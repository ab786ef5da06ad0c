// Package grader: a small Forth, its machine, and marks for what students hand in: see DOC.md.
package grader

// Errno is what a call answers: OK or the reason for a refusal.
type Errno int

const (
	OK        Errno = 0
	ErrLong   Errno = 1  // above a limit
	ErrWord   Errno = 2  // a word without a meaning
	ErrNest   Errno = 3  // a word that may not stand there
	ErrName   Errno = 4  // no name
	ErrCode   Errno = 5  // no instruction
	ErrFuel   Errno = 6  // the steps are spent
	ErrUnder  Errno = 7  // too few numbers on the stack
	ErrOver   Errno = 8  // too many numbers on the stack
	ErrDeep   Errno = 9  // too many calls
	ErrDenied Errno = 10 // the right is missing
	ErrFull   Errno = 11 // the output is full
	ErrZero   Errno = 12 // a division by 0
	ErrFence  Errno = 13 // a place that is fenced off
)

const (
	maxSource = 400
	maxCode   = 1024
	maxImage  = 256
	maxFuel   = 10000
	maxStack  = 16
	maxCalls  = 12
	maxOut    = 64
	maxTests  = 6
	maxHidden = 32
)

// Result is what a run comes to.
type Result struct {
	Out   string
	Image string
	Mark  int
	Used  int
	Err   Errno
}

// Test is an input, and bytes that the student's program must not see.
type Test struct{ In, Hidden string }

// Grader marks programs. Make it by Open; one that Open did not make, nil too, has no tests.
type Grader struct {
	checker string
	tests   []Test
	rights  int
	fuel    int
	refusal Errno // the error of Open, which every Submit answers too
	place   int   // and its place
	marks   string
}

// Check tells whether a text is a program (P3).
func Check(src string) (Errno, int) {
	_, e, place := readProgram(src)
	return e, place
}

// Run runs a program (P4 to P7).
func Run(src string, in string, image string, kernel int, secret int, rights int, fuel int) Result {
	steps, e, _ := readProgram(src)
	if e != OK {
		return Result{Err: e}
	}
	if len(image) > maxImage || fuel > maxFuel {
		return Result{Err: ErrLong}
	}
	m := newMachine(in, image, kernel, secret, rights, fuel)
	e = m.runSteps(steps)
	return m.result(e)
}

// Verify tells whether code is whole, and leads nowhere but to its own instructions (P8).
func Verify(code string) (Errno, int) {
	if len(code) > maxCode {
		return ErrLong, 0
	}
	return verifyCode(code)
}

// Exec runs code, be it whole or not (P9).
func Exec(code string, in string, image string, kernel int, secret int, rights int, fuel int) Result {
	if len(code) > maxCode || len(image) > maxImage || fuel > maxFuel {
		return Result{Err: ErrLong}
	}
	m := newMachine(in, image, kernel, secret, rights, fuel)
	e := m.runCode(code)
	return m.result(e)
}

// Compile turns a program into code (P10). The code is never above maxCode: a text of
// maxSource bytes has 200 words at most, and each comes to three bytes at most.
func Compile(src string) (string, Errno, int) {
	steps, e, place := readProgram(src)
	if e != OK {
		return "", e, place
	}
	return writeCode(steps), OK, 0
}

// Open makes a grader (P11).
func Open(checker string, tests []Test, rights int, fuel int) (*Grader, Errno, int) {
	e, place := checkOpen(checker, tests, fuel)
	if e != OK {
		return &Grader{refusal: e, place: place}, e, place
	}
	// The list is the caller's to change later, so the Grader keeps a copy.
	kept := append([]Test{}, tests...)
	return &Grader{checker: checker, tests: kept, rights: rights, fuel: fuel}, OK, 0
}

// Submit runs a program on every test and answers the transcript (P12, P14).
func (g *Grader) Submit(src string) (string, Errno, int) {
	if g == nil {
		g = &Grader{}
	}
	if g.refusal != OK {
		return "", g.refusal, g.place
	}
	e, place := Check(src)
	if e != OK {
		return "", e, place
	}
	transcript, marks := g.runTests(src)
	g.marks = marks
	return transcript, OK, 0
}

// Marks answers the marks of the last program that was run (P13).
func (g *Grader) Marks() string {
	if g == nil {
		return ""
	}
	return g.marks
}
