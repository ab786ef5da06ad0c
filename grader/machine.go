package grader

const (
	rightEmit = 1
	rightKey  = 2
	rightLook = 4
	rightMark = 8

	everyRight = rightEmit | rightKey | rightLook | rightMark
)

// machine is the state of a run.
type machine struct {
	in      string
	taken   int // how many bytes of the input have been taken
	image   []byte
	kernel  int // where the kernel's bytes end
	student int // where the student's bytes begin
	rights  int
	fuel    int
	used    int
	stack   []int
	calls   []int // where the calls that have not returned go on
	out     []byte
	mark    int
}

func newMachine(in string, image string, kernel int, secret int, rights int, fuel int) *machine {
	kernelEnd := clamp(kernel, len(image))
	secretSize := clamp(secret, len(image)-kernelEnd)
	return &machine{
		in:      in,
		image:   []byte(image),
		kernel:  kernelEnd,
		student: kernelEnd + secretSize,
		rights:  rights,
		fuel:    clamp(fuel, maxFuel),
	}
}

// clamp answers the number from 0 to most that is nearest to n.
func clamp(n int, most int) int {
	if n < 0 {
		return 0
	}
	if n > most {
		return most
	}
	return n
}

func (m *machine) result(e Errno) Result {
	return Result{Out: string(m.out), Image: string(m.image), Mark: m.mark, Used: m.used, Err: e}
}

// runSteps goes through a program. It ends: opPass leads forward only, and every other step uses fuel.
func (m *machine) runSteps(steps []step) Errno {
	at := 0
	for {
		s := stepAt(steps, at)
		if s.op == opHalt {
			return OK
		}
		if s.op == opPass {
			at = s.arg
			continue
		}
		e := m.fault(s.op)
		if e != OK {
			return e
		}
		at = m.makeStep(s.op, s.arg, at+1)
	}
}

// runCode goes through code, which need not be whole: what the run does not
// come to does not matter. It ends: every instruction but the halt uses fuel.
func (m *machine) runCode(code string) Errno {
	at := 0
	for {
		s, size := instructionAt(code, at)
		if size == 0 {
			return ErrCode
		}
		if s.op == opHalt {
			return OK
		}
		e := m.fault(s.op)
		if e != OK {
			return e
		}
		at = m.makeStep(s.op, s.arg, at+size)
	}
}

// fault answers the first error of P6 that a step meets. It changes nothing, as a step with an error is not made.
func (m *machine) fault(op int) Errno {
	if m.used >= m.fuel {
		return ErrFuel
	}
	left := len(m.stack) - takes(op)
	if left < 0 || (op == opReturn && len(m.calls) == 0) {
		return ErrUnder
	}
	if left+gives(op) > maxStack {
		return ErrOver
	}
	if op == opCall && len(m.calls) >= maxCalls {
		return ErrDeep
	}
	if m.denied(op) {
		return ErrDenied
	}
	if op == opEmit && len(m.out) >= maxOut {
		return ErrFull
	}
	if (op == opDivide || op == opMod) && m.top() == 0 {
		return ErrZero
	}
	if m.fenced(op) {
		return ErrFence
	}
	return OK
}

func (m *machine) denied(op int) bool {
	switch op {
	case opEmit:
		return m.rights&rightEmit == 0
	case opKey:
		return m.rights&rightKey == 0
	case opMark:
		return m.rights&rightMark == 0
	}
	return false
}

func (m *machine) fenced(op int) bool {
	place := m.top()
	behind := place >= len(m.image)
	switch op {
	case opFetch:
		secret := place >= m.kernel && place < m.student
		return behind || (secret && m.rights&rightLook == 0)
	case opStore:
		return behind || place < m.student
	}
	return false
}

// top answers the number on top of the stack, 0 if there is none.
func (m *machine) top() int {
	if len(m.stack) == 0 {
		return 0
	}
	return m.stack[len(m.stack)-1]
}

// pop takes the number on top of the stack; fault has made sure that there is one.
func (m *machine) pop() int {
	a := m.top()
	if len(m.stack) > 0 {
		m.stack = m.stack[:len(m.stack)-1]
	}
	return a
}

func (m *machine) push(a int) {
	m.stack = append(m.stack, a)
}
