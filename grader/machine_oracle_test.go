package grader_test

import (
	"math/rand"

	"grader/grader"
)

// A second reading of P8 and P9: the code is split into a table of its
// instructions by place, and what the words do is left to the walker.

type instruction struct {
	whole  bool
	word   string
	target int
	size   int
}

func decode(code string, at int) instruction {
	if at >= len(code) {
		return instruction{}
	}
	b := int(code[at])
	if b >= 16 && b < 16+len(listedWords) {
		return instruction{whole: true, word: listedWords[b-16], size: 1}
	}
	words := []string{"halt", "push", "jump", "jump if zero", "call", "return"}
	if b >= len(words) {
		return instruction{}
	}
	if b == 0 || b == 5 {
		return instruction{whole: true, word: words[b], size: 1}
	}
	if at+2 >= len(code) {
		return instruction{}
	}
	return instruction{whole: true, word: words[b], target: int(code[at+1])<<8 | int(code[at+2]), size: 3}
}

func oracleVerify(code string) (grader.Errno, int) {
	if len(code) > 1024 {
		return grader.ErrLong, 0
	}
	begins := map[int]instruction{}
	places := []int{}
	for at := 0; at < len(code); {
		i := decode(code, at)
		if !i.whole {
			return grader.ErrCode, at
		}
		begins[at] = i
		places = append(places, at)
		at += i.size
	}
	for _, at := range places {
		word := begins[at].word
		if _, found := begins[begins[at].target]; !found && (word == "jump" || word == "jump if zero" || word == "call") {
			return grader.ErrCode, at
		}
	}
	if len(places) == 0 {
		return grader.ErrCode, 0
	}
	last := places[len(places)-1]
	switch begins[last].word {
	case "halt", "jump", "return":
		return grader.OK, 0
	}
	return grader.ErrCode, last
}

func oracleExec(code, in, image string, kernel, secret, rights, fuel int) grader.Result {
	if len(code) > 1024 || len(image) > 256 || fuel > 10000 {
		return grader.Result{Err: grader.ErrLong}
	}
	w := newWalker(in, image, kernel, secret, rights, fuel)
	back := []int{}
	at := 0
	for w.r.Err == grader.OK {
		i := decode(code, at)
		if !i.whole {
			w.r.Err = grader.ErrCode
			break
		}
		if i.word == "halt" {
			break
		}
		next := at + i.size
		switch i.word {
		case "push":
			if w.step(0, 1) {
				w.stack = append(w.stack, i.target)
			}
		case "jump":
			w.step(0, 0)
			next = i.target
		case "jump if zero":
			if w.step(1, 0) && w.pop() == 0 {
				next = i.target
			}
		case "call":
			if w.step(0, 0) && len(back) == 12 {
				w.undo(grader.ErrDeep)
			}
			back = append(back, next)
			next = i.target
		case "return":
			if w.step(0, 0) && len(back) == 0 {
				w.undo(grader.ErrUnder)
			} else if w.r.Err == grader.OK {
				next = back[len(back)-1]
				back = back[:len(back)-1]
			}
		default:
			w.listed(i.word)
		}
		at = next
	}
	return w.r
}

// anyCode is made of instructions that mostly are whole and lead to one another's beginnings.
func anyCode(r *rand.Rand) string {
	code := []byte{}
	places := []int{}
	holes := []int{}
	for range r.Intn(12) {
		places = append(places, len(code))
		switch kind := r.Intn(8); {
		case kind < 2:
			code = append(code, 1, byte(r.Intn(40)/38), byte(r.Intn(8)))
		case kind < 4:
			code = append(code, byte(2+r.Intn(3)), 0, 0)
			holes = append(holes, len(code)-1)
		case kind < 7:
			code = append(code, byte(16+r.Intn(19)))
		default:
			code = append(code, byte(r.Intn(2)*5))
		}
	}
	for _, hole := range holes {
		code[hole] = byte(places[r.Intn(len(places))])
	}
	if r.Intn(3) > 0 {
		code = append(code, byte(r.Intn(2)*5))
	}
	if len(code) > 0 && r.Intn(3) == 0 {
		code[r.Intn(len(code))] = byte(r.Intn(37))
	}
	return string(code)
}
