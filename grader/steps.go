package grader

// What a step does. But for opPass, these are the numbers of the instructions in code.
const (
	opPass     = -1 // passes over a definition: it costs nothing, and is no instruction
	opHalt     = 0
	opPush     = 1
	opJump     = 2
	opJumpZero = 3
	opCall     = 4
	opReturn   = 5
	opDup      = 16
	opDrop     = 17
	opSwap     = 18
	opOver     = 19
	opAdd      = 20
	opSubtract = 21
	opMultiply = 22
	opDivide   = 23
	opMod      = 24
	opAnd      = 25
	opOr       = 26
	opXor      = 27
	opEqual    = 28
	opBelow    = 29
	opFetch    = 30
	opStore    = 31
	opEmit     = 32
	opKey      = 33
	opMark     = 34
)

// listed holds the words from opDup to opMark in the order of their numbers.
var listed = [19]string{
	"dup", "drop", "swap", "over", "+", "-", "*", "/", "mod", "and",
	"or", "xor", "=", "<", "@", "!", "emit", "key", "mark",
}

// step is a word of a program as a run meets it: arg is the number that it
// pushes, or which step is next if it goes elsewhere than behind itself.
type step struct {
	op  int
	arg int
}

// stepAt answers a step of a program, a halt if there is none.
func stepAt(steps []step, at int) step {
	if at < 0 || at >= len(steps) {
		return step{op: opHalt}
	}
	return steps[at]
}

// listedOp answers the number of a word of the list, and whether it is one.
func listedOp(text string) (int, bool) {
	for i := 0; i < len(listed); i++ {
		if listed[i] == text {
			return opDup + i, true
		}
	}
	return 0, false
}

// takes tells how many numbers a step needs on the stack.
func takes(op int) int {
	switch op {
	case opJumpZero, opDup, opDrop, opFetch, opEmit, opMark:
		return 1
	case opSwap, opOver, opStore:
		return 2
	}
	if isOperator(op) {
		return 2
	}
	return 0
}

// gives tells how many numbers a step lays in the place of those that it takes.
func gives(op int) int {
	switch op {
	case opPush, opFetch, opKey:
		return 1
	case opDup, opSwap:
		return 2
	case opOver:
		return 3
	}
	if isOperator(op) {
		return 1
	}
	return 0
}

// leads tells whether what belongs to a step is a place at which the run can go on.
func leads(op int) bool {
	return op == opJump || op == opJumpZero || op == opCall
}

// isOperator tells whether a step makes one number out of two.
func isOperator(op int) bool {
	return op >= opAdd && op <= opBelow
}
