package grader

import "strconv"

const (
	kernelSize = 4  // bytes of the kernel in a test's image
	room       = 32 // bytes of the student in a test's image
)

// checkOpen answers the error of Open and its place.
func checkOpen(checker string, tests []Test, fuel int) (Errno, int) {
	if len(tests) > maxTests || fuel > maxFuel {
		return ErrLong, 0
	}
	for i := 0; i < len(tests); i++ {
		if len(tests[i].Hidden) > maxHidden {
			return ErrLong, 0
		}
	}
	return Check(checker)
}

// runTests runs a program, and behind it the checker, on every test. It answers
// the transcript, into which nothing of the checker's run goes, and the marks.
func (g *Grader) runTests(src string) (string, string) {
	secret := hiddenAhead(g.tests, len(g.tests))
	transcript := ""
	marks := ""
	for i := 0; i < len(g.tests); i++ {
		image := testImage(g.tests, i)
		handed := Run(src, g.tests[i].In, image, kernelSize, secret, g.rights, g.fuel)
		transcript += transcriptLine(handed)
		checked := Run(g.checker, handed.Out, handed.Image, kernelSize, secret, everyRight, g.fuel)
		marks += markLine(checked)
	}
	return transcript, marks
}

// testImage answers the image of a test. No number in the kernel is above a
// byte, and the image is never above maxImage: there are at most maxTests
// tests, with at most maxHidden hidden bytes each.
func testImage(tests []Test, number int) string {
	size := 0
	if number >= 0 && number < len(tests) {
		size = len(tests[number].Hidden)
	}
	begin := kernelSize + hiddenAhead(tests, number)
	image := []byte{byte(number), byte(len(tests)), byte(begin), byte(size)}
	for i := 0; i < len(tests); i++ {
		image = append(image, tests[i].Hidden...)
	}
	image = append(image, make([]byte, room)...)
	return string(image)
}

// hiddenAhead answers how many bytes the tests ahead of one hide.
func hiddenAhead(tests []Test, number int) int {
	size := 0
	for i := 0; i < number && i < len(tests); i++ {
		size += len(tests[i].Hidden)
	}
	return size
}

func transcriptLine(r Result) string {
	head := strconv.Itoa(int(r.Err)) + " " + strconv.Itoa(r.Used) + " " + strconv.Itoa(len(r.Out))
	return head + ":" + r.Out + "\n"
}

func markLine(r Result) string {
	return strconv.Itoa(r.Mark) + " " + strconv.Itoa(int(r.Err)) + "\n"
}
