package grader

// makeStep makes a step that meets no error and answers the place at which the
// run goes on: behind, unless the step leads elsewhere.
func (m *machine) makeStep(op int, arg int, behind int) int {
	m.used++
	switch op {
	case opPush:
		m.push(arg)
	case opJump:
		return arg
	case opJumpZero:
		a := m.pop()
		if a == 0 {
			return arg
		}
	case opCall:
		m.calls = append(m.calls, behind)
		return arg
	case opReturn:
		return m.popCall(behind)
	case opDup, opDrop, opSwap, opOver:
		m.moveNumbers(op)
	case opFetch, opStore:
		m.useImage(op)
	case opEmit, opKey, opMark:
		m.useRight(op)
	default:
		b := m.pop()
		a := m.pop()
		c := combine(op, a, b)
		m.push(c)
	}
	return behind
}

// popCall answers where the last call goes on; fault has made sure that there is one.
func (m *machine) popCall(behind int) int {
	last := len(m.calls) - 1
	if last < 0 {
		return behind
	}
	place := m.calls[last]
	m.calls = m.calls[:last]
	return place
}

func (m *machine) moveNumbers(op int) {
	b := m.pop()
	switch op {
	case opDup:
		m.push(b)
		m.push(b)
	case opSwap:
		a := m.pop()
		m.push(b)
		m.push(a)
	case opOver:
		a := m.pop()
		m.push(a)
		m.push(b)
		m.push(a)
	}
}

// useImage reads or writes a byte; fault has made sure that the place is in the image.
func (m *machine) useImage(op int) {
	place := m.pop()
	if place < 0 || place >= len(m.image) {
		return
	}
	if op == opFetch {
		m.push(int(m.image[place]))
		return
	}
	value := m.pop()
	m.image[place] = byte(value % 256)
}

func (m *machine) useRight(op int) {
	switch op {
	case opEmit:
		a := m.pop()
		m.out = append(m.out, byte(a%256))
	case opKey:
		a := m.nextKey()
		m.push(a)
	case opMark:
		a := m.pop()
		m.mark = a
	}
}

func (m *machine) nextKey() int {
	if m.taken >= len(m.in) {
		return 65535
	}
	a := int(m.in[m.taken])
	m.taken++
	return a
}

// combine does a word that makes one number out of two. Keeping the low 16 bits is the same as modulo 65536, below 0 too.
func combine(op int, a int, b int) int {
	switch op {
	case opAdd:
		return (a + b) & 65535
	case opSubtract:
		return (a - b) & 65535
	case opMultiply:
		return (a * b) & 65535
	case opDivide, opMod:
		return divide(op, a, b)
	case opAnd:
		return a & b
	case opOr:
		return a | b
	case opXor:
		return a ^ b
	case opEqual:
		return truth(a == b)
	case opBelow:
		return truth(a < b)
	}
	return 0
}

// divide answers the quotient or the remainder; fault has made sure that b is not 0.
func divide(op int, a int, b int) int {
	if b == 0 {
		return 0
	}
	if op == opDivide {
		return a / b
	}
	return a % b
}

func truth(holds bool) int {
	if holds {
		return 1
	}
	return 0
}
