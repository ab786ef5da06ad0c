package grader

// The forms that can be open: what may come next hangs on which part of a form has been read.
const (
	formNone  = 0
	formIf    = 1 // behind if
	formElse  = 2 // behind else
	formBegin = 3 // behind begin
	formWhile = 4 // behind while
)

type form struct {
	kind  int
	begin int // the step behind begin
	hole  int // the step whose target is not known yet
}

type definition struct {
	name  string
	first int // its first step
}

// reader turns the words of a program into steps, one word after the other.
type reader struct {
	steps     []step
	forms     []form       // the innermost is the last
	defs      []definition // those that have ended
	current   definition   // the one that is being read, if inside is true
	inside    bool
	nameIsDue bool
}

// readProgram answers the steps of a program, the last of them a halt, or the error and the place of Check.
func readProgram(src string) ([]step, Errno, int) {
	if len(src) > maxSource {
		return nil, ErrLong, 0
	}
	r := reader{}
	start, end := nextWord(src, 0)
	for start < end {
		e := r.take(src[start:end])
		if e != OK {
			return nil, e, start
		}
		start, end = nextWord(src, end)
	}
	e := r.finish()
	if e != OK {
		return nil, e, len(src)
	}
	r.add(opHalt, 0)
	return r.steps, OK, 0
}

// nextWord answers where the first word from a place on begins and ends; the two are equal if there is none.
func nextWord(src string, from int) (int, int) {
	start := from
	for start < len(src) && src[start] <= ' ' {
		start++
	}
	end := start
	for end < len(src) && src[end] > ' ' {
		end++
	}
	return start, end
}

// take reads the next word. A word behind a colon is judged as a name alone, whatever else it could be.
func (r *reader) take(text string) Errno {
	if r.nameIsDue {
		return r.takeName(text)
	}
	if isDigits(text) {
		return r.takeNumber(text)
	}
	switch text {
	case "if", "else", "then":
		return r.takeBranch(text)
	case "begin", "until", "while", "repeat":
		return r.takeLoop(text)
	case ":":
		return r.openDefinition()
	case ";", "exit", "recurse":
		return r.takeInside(text)
	}
	return r.takeMeaning(text)
}

// finish tells whether the text may end here.
func (r *reader) finish() Errno {
	if r.nameIsDue {
		return ErrName
	}
	if r.inside || len(r.forms) > 0 {
		return ErrNest
	}
	return OK
}

func (r *reader) takeNumber(text string) Errno {
	if len(text) > 5 {
		return ErrWord
	}
	value := 0
	for i := 0; i < len(text); i++ {
		value = value*10 + int(text[i]-'0')
	}
	if value > 65535 {
		return ErrWord
	}
	r.add(opPush, value)
	return OK
}

// takeMeaning reads a name or a word of the list. The definition comes first: it may have given a listed word a new meaning.
func (r *reader) takeMeaning(text string) Errno {
	for i := len(r.defs) - 1; i >= 0; i-- {
		if r.defs[i].name == text {
			r.add(opCall, r.defs[i].first)
			return OK
		}
	}
	op, found := listedOp(text)
	if !found {
		return ErrWord
	}
	r.add(op, 0)
	return OK
}

func (r *reader) add(op int, arg int) {
	r.steps = append(r.steps, step{op: op, arg: arg})
}

// aimHere lets a step that was waiting for its target go on at the step that is added next.
func (r *reader) aimHere(waiting int) {
	if waiting >= 0 && waiting < len(r.steps) {
		r.steps[waiting].arg = len(r.steps)
	}
}

func isDigits(text string) bool {
	for i := 0; i < len(text); i++ {
		if text[i] < '0' || text[i] > '9' {
			return false
		}
	}
	return true
}
