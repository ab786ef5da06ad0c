package grader

// writeCode lays the program's own steps ahead of all definitions: a jump over
// a definition would cost a step, which passing over it does not.
func writeCode(steps []step) string {
	order := codeOrder(steps)
	places := codePlaces(steps, order)
	code := []byte{}
	for i := 0; i < len(order); i++ {
		s := stepAt(steps, order[i])
		code = append(code, byte(s.op))
		if instructionSize(s.op) < 3 {
			continue
		}
		arg := s.arg
		if leads(s.op) {
			arg = placeAt(places, arg)
		}
		code = append(code, byte(arg/256), byte(arg%256))
	}
	return string(code)
}

// codeOrder answers which steps stand in the code, in their order there.
func codeOrder(steps []step) []int {
	own := []int{}
	defined := []int{}
	definitionEnd := 0
	for i := 0; i < len(steps); i++ {
		if steps[i].op == opPass {
			definitionEnd = steps[i].arg
			continue
		}
		if i < definitionEnd {
			defined = append(defined, i)
		} else {
			own = append(own, i)
		}
	}
	return append(own, defined...)
}

// codePlaces answers at which place of the code each step begins. A step that
// passes over a definition has the place of the one behind it; as that may be
// such a step too, they are gone through from the last one on.
func codePlaces(steps []step, order []int) []int {
	places := make([]int, len(steps))
	place := 0
	for i := 0; i < len(order); i++ {
		at := order[i]
		if at >= 0 && at < len(places) {
			places[at] = place
		}
		s := stepAt(steps, at)
		place += instructionSize(s.op)
	}
	for i := len(steps) - 1; i >= 0; i-- {
		if steps[i].op == opPass {
			places[i] = placeAt(places, steps[i].arg)
		}
	}
	return places
}

func placeAt(places []int, at int) int {
	if at < 0 || at >= len(places) {
		return 0
	}
	return places[at]
}
