package grader

// takeBranch reads a word of if .. else .. then. No step stands for then: it costs nothing.
func (r *reader) takeBranch(text string) Errno {
	if text == "if" {
		r.pushForm(form{kind: formIf, hole: len(r.steps)})
		r.add(opJumpZero, 0)
		return OK
	}
	top := r.topForm()
	if text == "else" {
		if top.kind != formIf {
			return ErrNest
		}
		r.popForm()
		r.pushForm(form{kind: formElse, hole: len(r.steps)})
		r.add(opJump, 0)
		r.aimHere(top.hole)
		return OK
	}
	if top.kind != formIf && top.kind != formElse {
		return ErrNest
	}
	r.popForm()
	r.aimHere(top.hole)
	return OK
}

// takeLoop reads a word of the two loops. No step stands for begin: it costs nothing.
func (r *reader) takeLoop(text string) Errno {
	if text == "begin" {
		r.pushForm(form{kind: formBegin, begin: len(r.steps)})
		return OK
	}
	top := r.topForm()
	if text == "repeat" {
		if top.kind != formWhile {
			return ErrNest
		}
		r.popForm()
		r.add(opJump, top.begin)
		r.aimHere(top.hole)
		return OK
	}
	if top.kind != formBegin {
		return ErrNest
	}
	r.popForm()
	if text == "while" {
		r.pushForm(form{kind: formWhile, begin: top.begin, hole: len(r.steps)})
	}
	r.add(opJumpZero, top.begin)
	return OK
}

// openDefinition reads a colon. Its step passes over the definition and learns the target at the end of it.
func (r *reader) openDefinition() Errno {
	if r.inside || len(r.forms) > 0 {
		return ErrNest
	}
	r.nameIsDue = true
	r.add(opPass, 0)
	return OK
}

func (r *reader) takeName(text string) Errno {
	if !isName(text) {
		return ErrName
	}
	r.nameIsDue = false
	r.inside = true
	r.current = definition{name: text, first: len(r.steps)}
	return OK
}

// takeInside reads a word that may stand in a definition alone.
func (r *reader) takeInside(text string) Errno {
	if !r.inside {
		return ErrNest
	}
	switch text {
	case "exit":
		r.add(opReturn, 0)
		return OK
	case "recurse":
		r.add(opCall, r.current.first)
		return OK
	}
	if len(r.forms) > 0 {
		return ErrNest
	}
	r.add(opReturn, 0)
	r.aimHere(r.current.first - 1)
	r.defs = append(r.defs, r.current)
	r.inside = false
	return OK
}

func isName(text string) bool {
	switch text {
	case "if", "else", "then", "begin", "until", "while", "repeat", "exit", "recurse", ":", ";":
		return false
	}
	return !isDigits(text)
}

// topForm answers the innermost open form; its kind is formNone if none is open.
func (r *reader) topForm() form {
	if len(r.forms) == 0 {
		return form{kind: formNone}
	}
	return r.forms[len(r.forms)-1]
}

func (r *reader) pushForm(f form) {
	r.forms = append(r.forms, f)
}

func (r *reader) popForm() {
	if len(r.forms) > 0 {
		r.forms = r.forms[:len(r.forms)-1]
	}
}
