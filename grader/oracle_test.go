package grader_test

import (
	"strconv"
	"strings"

	"grader/grader"
)

// A second reading of P3 to P7, as a tree that is walked by recursion. It
// shares no code and no way of working with the package: what the two answer
// is compared over many programs.

type node struct {
	word   string // "number", "call", "if", "until", "while", or a word of the list, "exit"
	number int
	called *body
	first  []node // of if: the first branch; of the loops: what stands ahead of until or while
	second []node // of if: the second branch; of while: what stands ahead of repeat
	hasTwo bool   // of if: there is an else
}

type body struct {
	name  string
	nodes []node
}

type token struct {
	text string
	at   int
}

func tokens(src string) []token {
	list := []token{}
	inWord := false
	for i := range len(src) {
		if src[i] <= 32 {
			inWord = false
			continue
		}
		if !inWord {
			list = append(list, token{at: i})
		}
		inWord = true
		list[len(list)-1].text += src[i : i+1]
	}
	return list
}

type tree struct {
	rest  []token
	end   int
	defs  []*body
	inDef *body
	e     grader.Errno
	at    int
}

// fail keeps the first error. The recursion unwinds by the empty rest.
func (p *tree) fail(e grader.Errno, at int) {
	if p.e == grader.OK {
		p.e = e
		p.at = at
	}
	p.rest = nil
}

// sequence reads up to one of the closing words, and answers which that was ("" at the end of the text).
func (p *tree) sequence(closing string, topLevel bool) ([]node, string) {
	nodes := []node{}
	for len(p.rest) > 0 {
		w := p.rest[0]
		p.rest = p.rest[1:]
		if strings.Contains(" "+closing+" ", " "+w.text+" ") {
			return nodes, w.text
		}
		if w.text == ":" && topLevel {
			p.define()
			continue
		}
		nodes = append(nodes, p.one(w))
	}
	if closing != "" && p.e == grader.OK {
		p.fail(grader.ErrNest, p.end)
	}
	return nodes, ""
}

func (p *tree) define() {
	if len(p.rest) == 0 {
		p.fail(grader.ErrName, p.end)
		return
	}
	name := p.rest[0]
	p.rest = p.rest[1:]
	if reserved(name.text) || strings.Trim(name.text, "0123456789") == "" {
		p.fail(grader.ErrName, name.at)
		return
	}
	p.inDef = &body{name: name.text}
	p.inDef.nodes, _ = p.sequence(";", false)
	p.defs = append(p.defs, p.inDef)
	p.inDef = nil
}

func reserved(text string) bool {
	return strings.Contains(" if else then begin until while repeat exit recurse : ; ", " "+text+" ")
}

func (p *tree) one(w token) node {
	switch {
	case w.text == "if":
		return p.branch()
	case w.text == "begin":
		n := node{}
		n.first, n.word = p.sequence("until while", false)
		if n.word == "while" {
			n.second, _ = p.sequence("repeat", false)
		}
		return n
	case w.text == "exit" && p.inDef != nil:
		return node{word: "exit"}
	case w.text == "recurse" && p.inDef != nil:
		return node{word: "call", called: p.inDef}
	case reserved(w.text):
		p.fail(grader.ErrNest, w.at)
		return node{}
	}
	return p.plain(w)
}

func (p *tree) branch() node {
	n := node{word: "if"}
	closer := ""
	n.first, closer = p.sequence("else then", false)
	if closer == "else" {
		n.hasTwo = true
		n.second, _ = p.sequence("then", false)
	}
	return n
}

func (p *tree) plain(w token) node {
	if strings.Trim(w.text, "0123456789") == "" {
		value, err := strconv.Atoi(w.text)
		if err != nil || value > 65535 || len(w.text) > 5 {
			p.fail(grader.ErrWord, w.at)
		}
		return node{word: "number", number: value}
	}
	found := node{}
	for _, d := range p.defs {
		if d.name == w.text {
			found = node{word: "call", called: d}
		}
	}
	if found.called != nil {
		return found
	}
	for _, word := range listedWords {
		if word == w.text {
			return node{word: word}
		}
	}
	p.fail(grader.ErrWord, w.at)
	return node{}
}

func oracleCheck(src string) ([]node, grader.Errno, int) {
	if len(src) > 400 {
		return nil, grader.ErrLong, 0
	}
	p := &tree{rest: tokens(src), end: len(src)}
	nodes, _ := p.sequence("", true)
	return nodes, p.e, p.at
}

type walker struct {
	r      grader.Result
	in     string
	parts  string // k, s or u for every byte of the image
	rights int
	fuel   int
	stack  []int
	depth  int
	exited bool
}

func oracleRun(src, in, image string, kernel, secret, rights, fuel int) grader.Result {
	nodes, e, _ := oracleCheck(src)
	if e != grader.OK {
		return grader.Result{Err: e}
	}
	if len(image) > 256 || fuel > 10000 {
		return grader.Result{Err: grader.ErrLong}
	}
	w := newWalker(in, image, kernel, secret, rights, fuel)
	w.walk(nodes)
	return w.r
}

func newWalker(in, image string, kernel, secret, rights, fuel int) *walker {
	parts := ""
	for range len(image) {
		switch {
		case kernel > 0:
			parts += "k"
			kernel--
		case secret > 0:
			parts += "s"
			secret--
		default:
			parts += "u"
		}
	}
	return &walker{r: grader.Result{Image: image}, in: in, parts: parts, rights: rights, fuel: fuel}
}

// step makes a step with these needs; it answers false if the run has ended.
func (w *walker) step(takes, gives int) bool {
	switch {
	case w.r.Err != grader.OK:
	case w.r.Used >= w.fuel:
		w.r.Err = grader.ErrFuel
	case len(w.stack) < takes:
		w.r.Err = grader.ErrUnder
	case len(w.stack)-takes+gives > 16:
		w.r.Err = grader.ErrOver
	default:
		w.r.Used++
	}
	return w.r.Err == grader.OK
}

// undo takes back the step that has just been counted: it meets an error.
func (w *walker) undo(e grader.Errno) {
	w.r.Used--
	w.r.Err = e
}

func (w *walker) pop() int {
	a := w.stack[len(w.stack)-1]
	w.stack = w.stack[:len(w.stack)-1]
	return a
}

func (w *walker) walk(nodes []node) {
	for _, n := range nodes {
		if w.r.Err != grader.OK || w.exited {
			return
		}
		w.visit(n)
	}
}

func (w *walker) stopped() bool { return w.r.Err != grader.OK || w.exited }

func (w *walker) visit(n node) {
	switch n.word {
	case "number":
		if w.step(0, 1) {
			w.stack = append(w.stack, n.number)
		}
	case "call":
		w.call(n.called)
	case "exit":
		w.exited = w.step(0, 0)
	case "if":
		if !w.step(1, 0) {
			return
		}
		if w.pop() == 0 {
			w.walk(n.second)
			return
		}
		w.walk(n.first)
		if n.hasTwo && !w.stopped() {
			w.step(0, 0)
		}
	case "until", "while":
		w.loop(n)
	default:
		w.listed(n.word)
	}
}

func (w *walker) loop(n node) {
	for {
		w.walk(n.first)
		if w.stopped() || !w.step(1, 0) {
			return
		}
		zero := w.pop() == 0
		if zero == (n.word == "while") {
			return
		}
		if n.word == "while" {
			w.walk(n.second)
			if w.stopped() || !w.step(0, 0) {
				return
			}
		}
	}
}

func (w *walker) call(b *body) {
	if !w.step(0, 0) {
		return
	}
	if w.depth == 12 {
		w.undo(grader.ErrDeep)
		return
	}
	w.depth++
	w.walk(b.nodes)
	if w.r.Err == grader.OK && !w.exited {
		w.step(0, 0)
	}
	w.exited = false
	w.depth--
}

var effects = map[string][2]int{
	"dup": {1, 2}, "drop": {1, 0}, "swap": {2, 2}, "over": {2, 3}, "@": {1, 1}, "!": {2, 0}, "emit": {1, 0}, "key": {0, 1}, "mark": {1, 0},
}

func (w *walker) listed(word string) {
	effect, found := effects[word]
	if !found {
		effect = [2]int{2, 1}
	}
	if !w.step(effect[0], effect[1]) {
		return
	}
	a := append([]int{}, w.stack[len(w.stack)-effect[0]:]...)
	top := 0
	if len(a) > 0 {
		top = a[len(a)-1]
	}
	if e := w.objection(word, top); e != grader.OK {
		w.undo(e)
		return
	}
	w.stack = w.stack[:len(w.stack)-effect[0]]
	w.stack = append(w.stack, w.answer(word, a)...)
}

func (w *walker) objection(word string, top int) grader.Errno {
	inside := top < len(w.parts)
	right := map[string]int{"emit": 1, "key": 2, "mark": 8}[word]
	switch {
	case w.rights&right != right:
		return grader.ErrDenied
	case word == "emit" && len(w.r.Out) == 64:
		return grader.ErrFull
	case (word == "/" || word == "mod") && top == 0:
		return grader.ErrZero
	case word == "@" && (!inside || w.parts[top] == 's' && w.rights&4 == 0):
		return grader.ErrFence
	case word == "!" && (!inside || w.parts[top] != 'u'):
		return grader.ErrFence
	}
	return grader.OK
}

func (w *walker) answer(word string, a []int) []int {
	switch word {
	case "dup":
		return []int{a[0], a[0]}
	case "swap":
		return []int{a[1], a[0]}
	case "over":
		return []int{a[0], a[1], a[0]}
	case "@":
		return []int{int(w.r.Image[a[0]])}
	case "!":
		w.r.Image = w.r.Image[:a[1]] + string([]byte{byte(a[0])}) + w.r.Image[a[1]+1:]
	case "emit":
		w.r.Out += string([]byte{byte(a[0])})
	case "mark":
		w.r.Mark = a[0]
	case "key":
		if w.in == "" {
			return []int{65535}
		}
		c := int(w.in[0])
		w.in = w.in[1:]
		return []int{c}
	case "drop":
	default:
		return []int{oneOfTwo(word, uint16(a[0]), uint16(a[1]))}
	}
	return nil
}

func oneOfTwo(word string, a, b uint16) int {
	switch {
	case word == "+":
		return int(a + b)
	case word == "-":
		return int(a - b)
	case word == "*":
		return int(a * b)
	case word == "/":
		return int(a / b)
	case word == "mod":
		return int(a % b)
	case word == "and":
		return int(a & b)
	case word == "or":
		return int(a | b)
	case word == "xor":
		return int(a ^ b)
	case word == "=" && a == b, word == "<" && a < b:
		return 1
	}
	return 0
}
