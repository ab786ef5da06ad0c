package grader

// instructionSize answers how many bytes an instruction has, 0 if no instruction has this number.
func instructionSize(op int) int {
	switch {
	case op == opPush || leads(op):
		return 3
	case op == opHalt || op == opReturn:
		return 1
	case op >= opDup && op <= opMark:
		return 1
	}
	return 0
}

// instructionAt answers the instruction at a place and its size, which is 0 if no whole one stands there.
func instructionAt(code string, at int) (step, int) {
	if at < 0 || at >= len(code) {
		return step{}, 0
	}
	op := int(code[at])
	size := instructionSize(op)
	if size > len(code)-at {
		return step{}, 0
	}
	if size == 3 {
		return step{op: op, arg: int(code[at+1])*256 + int(code[at+2])}, size
	}
	return step{op: op}, size
}

// verifyCode looks for the three faults one after the other: each is sought in
// the whole code ahead of the next.
func verifyCode(code string) (Errno, int) {
	starts := make([]bool, len(code))
	last := 0
	at := 0
	for at < len(code) {
		_, size := instructionAt(code, at)
		if size == 0 {
			return ErrCode, at
		}
		starts[at] = true
		last = at
		at += size
	}
	for i := 0; i < len(code); i++ {
		s, _ := instructionAt(code, i)
		astray := s.arg >= len(code) || !starts[s.arg]
		if starts[i] && leads(s.op) && astray {
			return ErrCode, i
		}
	}
	if !endsARun(code, last) {
		return ErrCode, last
	}
	return OK, 0
}

// endsARun tells whether an instruction stands at a place, behind which a run cannot go on.
func endsARun(code string, at int) bool {
	s, size := instructionAt(code, at)
	return size > 0 && (s.op == opHalt || s.op == opJump || s.op == opReturn)
}
