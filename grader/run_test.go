package grader_test

import (
	"strings"
	"testing"

	"grader/grader"
)

const (
	allRights = 15
	manySteps = 10000
)

type runCase struct {
	src  string
	want grader.Result
}

// runAll runs over the image "kssuuu": one byte of the kernel, two secret ones, three of the student.
func runAll(t *testing.T, promise string, in string, rights int, fuel int, cases []runCase) {
	t.Helper()
	for _, c := range cases {
		if r := grader.Run(c.src, in, "kssuuu", 1, 2, rights, fuel); r != c.want {
			t.Errorf("%s: Run(%q) = %+v, want %+v", promise, c.src, r, c.want)
		}
	}
}

func TestRunRefuses(t *testing.T) {
	long := strings.Repeat("i", 257)
	for _, c := range []struct {
		src, image string
		fuel       int
		e          grader.Errno
	}{
		{"1 nope", "x", 9, grader.ErrWord}, {"1 if", "x", 9, grader.ErrNest}, {": 5", "x", 9, grader.ErrName}, {strings.Repeat(" ", 401), "x", 9, grader.ErrLong},
		{"1 mark", long, 9, grader.ErrLong}, {"1 mark", "x", 10001, grader.ErrLong}, {"", "x", 1<<63 - 1, grader.ErrLong}, {"", strings.Repeat("i", 1000000), 0, grader.ErrLong},
		{"nope", long, 10001, grader.ErrWord}, {"then", long, 9, grader.ErrNest}, {":", "x", 10001, grader.ErrName}, {"drop", long, 0, grader.ErrLong},
	} {
		if r := grader.Run(c.src, "in", c.image, 1, 0, allRights, c.fuel); r != (grader.Result{Err: c.e}) {
			t.Errorf("P4: Run(%.20q, image of %d, fuel %d) = %+v, want the error %d alone", c.src, len(c.image), c.fuel, r, c.e)
		}
	}
}

func TestRunAtItsLimits(t *testing.T) {
	image := strings.Repeat("i", 256)
	if r := grader.Run("65 255 !", "", image, 255, 0, 0, 10000); r != (grader.Result{Image: image[:255] + "A", Used: 3}) {
		t.Errorf("P4: the greatest image and fuel: %+v", r)
	}
	if r := grader.Run("begin 0 until", "", "", 0, 0, 0, 10000); r != (grader.Result{Used: 10000, Err: grader.ErrFuel}) {
		t.Errorf("P4: the greatest fuel: %+v", r)
	}
	for _, fuel := range []int{0, -1, -1 << 63} {
		if r := grader.Run(": a 1 ; begin 1 until", "", "x", 0, 0, 0, fuel); r != (grader.Result{Image: "x", Err: grader.ErrFuel}) {
			t.Errorf("P4: fuel %d: %+v", fuel, r)
		}
		if r := grader.Run(": a 1 ; : b 2 ;", "", "x", 0, 0, 0, fuel); r != (grader.Result{Image: "x"}) {
			t.Errorf("P4: fuel %d, definitions alone: %+v", fuel, r)
		}
	}
}

// The parts of an image: a number below 0 counts as 0, one above what is left counts as what is left.
func TestPartsOfTheImage(t *testing.T) {
	const most = 1<<63 - 1
	for _, c := range []struct {
		kernel, secret int
		parts          string
	}{
		{0, 0, "uuuu"}, {1, 2, "kssu"}, {2, 0, "kkuu"}, {0, 3, "sssu"}, {4, 0, "kkkk"}, {0, 4, "ssss"}, {2, 2, "kkss"},
		{-1, -1, "uuuu"}, {-3, 1, "suuu"}, {1, -9, "kuuu"}, {-most - 1, -most - 1, "uuuu"},
		{5, 0, "kkkk"}, {most, most, "kkkk"}, {1, 4, "ksss"}, {3, most, "kkks"}, {-most, most, "ssss"}, {most, -1, "kkkk"},
	} {
		for i := 0; i < 4; i++ {
			place := string(rune('0' + i))
			fetched := grader.Run(place+" @", "", "abcd", c.kernel, c.secret, 11, 9).Err == grader.OK
			stored := grader.Run("1 "+place+" !", "", "abcd", c.kernel, c.secret, 15, 9).Err == grader.OK
			if fetched != (c.parts[i] != 's') || stored != (c.parts[i] == 'u') {
				t.Errorf("the parts at kernel %d, secret %d: place %d: fetched %v, stored %v, want part %c", c.kernel, c.secret, i, fetched, stored, c.parts[i])
			}
		}
	}
}

func TestStepsCounted(t *testing.T) {
	runAll(t, "P5", "", allRights, manySteps, []runCase{
		{"", grader.Result{Image: "kssuuu"}},
		{": a 1 2 3 ; : b a a ;", grader.Result{Image: "kssuuu"}},
		{": a ; a", grader.Result{Image: "kssuuu", Used: 2}},
		{": a exit 1 2 3 ; a", grader.Result{Image: "kssuuu", Used: 2}},
		{": a ; : b a ; b", grader.Result{Image: "kssuuu", Used: 4}},
		{": sq dup * ; 8 sq emit", grader.Result{Out: "@", Image: "kssuuu", Used: 6}},
		{"0 if 65 else 66 then emit", grader.Result{Out: "B", Image: "kssuuu", Used: 4}},
		{"1 if 65 else 66 then emit", grader.Result{Out: "A", Image: "kssuuu", Used: 5}},
		{"2 begin dup while 88 emit 1 - repeat", grader.Result{Out: "XX", Image: "kssuuu", Used: 17}},
		{"0 if 1 mark then", grader.Result{Image: "kssuuu", Used: 2}},
		{"7 if 1 mark then", grader.Result{Image: "kssuuu", Mark: 1, Used: 4}},
		{"1 if else then", grader.Result{Image: "kssuuu", Used: 3}},
		{"0 if else then", grader.Result{Image: "kssuuu", Used: 2}},
		{"begin 1 until", grader.Result{Image: "kssuuu", Used: 2}},
		{"begin 0 while repeat", grader.Result{Image: "kssuuu", Used: 2}},
		{"begin begin begin 1 until 1 until 0 while repeat", grader.Result{Image: "kssuuu", Used: 6}},
		{": f dup if 1 - recurse then ; 3 f mark", grader.Result{Image: "kssuuu", Used: 1 + 4 + 4*2 + 3*2 + 4 + 1}},
	})
}

// Whatever the program, less fuel than it uses cuts it off right there, and as much as it uses is enough.
func TestFuelCutsOff(t *testing.T) {
	for _, src := range []string{
		": sq dup * ; 8 sq emit", "1 if 65 else 66 then emit", "2 begin dup while 88 emit 1 - repeat", "3 begin 1 - dup 0 = until",
		": f dup if dup 48 + emit 1 - recurse exit then ; 4 f", "65 3 ! 66 4 ! 7 mark",
	} {
		whole := grader.Run(src, "", "kssuuu", 1, 2, allRights, manySteps)
		if whole.Err != grader.OK || whole.Used == 0 {
			t.Fatalf("P4: Run(%q) = %+v", src, whole)
		}
		if r := grader.Run(src, "", "kssuuu", 1, 2, allRights, whole.Used); r != whole {
			t.Errorf("P6: Run(%q) with fuel %d = %+v, want %+v", src, whole.Used, r, whole)
		}
		for fuel := 0; fuel < whole.Used; fuel++ {
			r := grader.Run(src, "", "kssuuu", 1, 2, allRights, fuel)
			if r.Err != grader.ErrFuel || r.Used != fuel || !strings.HasPrefix(whole.Out, r.Out) {
				t.Errorf("P6: Run(%q) with fuel %d = %+v", src, fuel, r)
			}
		}
	}
}

func TestErrorKeepsWhatWasDone(t *testing.T) {
	runAll(t, "P5", "", allRights, manySteps, []runCase{
		{"65 emit 90 4 ! 9 mark 1 0 /", grader.Result{Out: "A", Image: "kssuZu", Mark: 9, Used: 9, Err: grader.ErrZero}},
		{"66 dup emit 3 ! 5 mark drop", grader.Result{Out: "B", Image: "kssBuu", Mark: 5, Used: 7, Err: grader.ErrUnder}},
		{": a 67 emit 1 0 ! ; a", grader.Result{Out: "C", Image: "kssuuu", Used: 5, Err: grader.ErrFence}},
	})
	want := grader.Result{Out: "D", Image: "kssDuu", Mark: 3, Used: 8, Err: grader.ErrFuel}
	runAll(t, "P5", "", allRights, 8, []runCase{{"68 dup emit 3 ! 3 mark 1 2", want}})
}

func TestWords(t *testing.T) {
	for _, c := range []struct {
		src  string
		mark int
		used int
	}{
		{"7 mark", 7, 2}, {"65535 mark", 65535, 2}, {"00042 mark", 42, 2}, {"1 mark 2 mark", 2, 4}, {"5 mark 0 mark", 0, 4},
		{"3 dup 10 * + mark", 33, 6}, {"1 2 drop mark", 1, 4}, {"1 2 swap 10 * + mark", 12, 7}, {"1 2 over 10 * + 10 * + mark", 121, 10},
		{"40000 30000 + mark", 4464, 4}, {"65535 1 + mark", 0, 4}, {"65535 65535 + mark", 65534, 4},
		{"9 4 - mark", 5, 4}, {"4 9 - mark", 65531, 4}, {"0 65535 - mark", 1, 4},
		{"300 300 * mark", 24464, 4}, {"65535 65535 * mark", 1, 4}, {"256 256 * mark", 0, 4},
		{"17 5 / mark", 3, 4}, {"5 17 / mark", 0, 4}, {"65535 1 / mark", 65535, 4}, {"0 7 / mark", 0, 4},
		{"17 5 mod mark", 2, 4}, {"5 17 mod mark", 5, 4}, {"65535 65535 mod mark", 0, 4}, {"4 9 - 2 / mark", 32765, 6},
		{"12 10 and mark", 8, 4}, {"12 10 or mark", 14, 4}, {"12 10 xor mark", 6, 4}, {"65535 43690 xor mark", 21845, 4}, {"65535 65535 and mark", 65535, 4},
		{"3 3 = mark", 1, 4}, {"3 4 = mark", 0, 4},
		{"3 4 < mark", 1, 4}, {"4 3 < mark", 0, 4}, {"3 3 < mark", 0, 4}, {"0 65535 < mark", 1, 4}, {"65535 0 < mark", 0, 4},
		{"0 @ mark", 'k', 3}, {"1 @ mark", 's', 3}, {"5 @ mark", 'u', 3},
		{"0 if 1 else 2 then mark", 2, 4}, {"65535 if 1 else 2 then mark", 1, 5}, {"1 0 if drop 2 then mark", 1, 4},
		{"1 if 0 if 1 else 2 then else 3 then mark", 2, 7}, {"0 if 0 if 1 else 2 then else 3 then mark", 3, 4},
		{"1 begin 2 * dup 100 < 0 = until mark", 128, 1 + 7*8 + 1}, {"1 begin dup 100 < while 2 * repeat mark", 128, 1 + 7*7 + 4 + 1},
	} {
		want := grader.Result{Image: "kssuuu", Mark: c.mark, Used: c.used}
		if r := grader.Run(c.src, "", "kssuuu", 1, 2, allRights, manySteps); r != want {
			t.Errorf("P7: Run(%q) = %+v, want %+v", c.src, r, want)
		}
	}
}

func TestStoreAndEmitTakeTheLowByte(t *testing.T) {
	runAll(t, "P7", "", allRights, manySteps, []runCase{
		{"200 3 ! 3 @ mark", grader.Result{Image: "kss\xc8uu", Mark: 200, Used: 6}},
		{"255 5 ! 5 @ mark", grader.Result{Image: "kssuu\xff", Mark: 255, Used: 6}},
		{"65 3 ! 66 5 !", grader.Result{Image: "kssAuB", Used: 6}},
		{"256 3 ! 65535 4 ! 321 5 !", grader.Result{Image: "kss\x00\xffA", Used: 9}},
		{"65 emit 321 emit 256 emit 65535 emit", grader.Result{Out: "AA\x00\xff", Image: "kssuuu", Used: 8}},
	})
}

func TestKey(t *testing.T) {
	runAll(t, "P7", "A\x00\xff", allRights, manySteps, []runCase{
		{"key emit key emit key emit", grader.Result{Out: "A\x00\xff", Image: "kssuuu", Used: 6}},
		{"key drop key drop key mark", grader.Result{Image: "kssuuu", Mark: 255, Used: 6}},
		{"key drop key drop key drop key mark", grader.Result{Image: "kssuuu", Mark: 65535, Used: 8}},
		{"key key key key key + 1 + mark", grader.Result{Image: "kssuuu", Mark: 65535, Used: 9}},
	})
	if r := grader.Run("key mark", "", "", 0, 0, allRights, 9); r != (grader.Result{Mark: 65535, Used: 2}) {
		t.Errorf("P7: key at no input: %+v", r)
	}
}

func TestNamesMeanTheLastDefinitionThatHasEnded(t *testing.T) {
	runAll(t, "P7", "", allRights, manySteps, []runCase{
		{": a 1 ; : a 2 ; a mark", grader.Result{Image: "kssuuu", Mark: 2, Used: 4}},
		{": a 1 ; : b a ; : a 2 ; b mark", grader.Result{Image: "kssuuu", Mark: 1, Used: 6}},
		{": a 1 ; : a a 5 + ; a mark", grader.Result{Image: "kssuuu", Mark: 6, Used: 8}},
		{": dup dup dup ; 3 dup * * mark", grader.Result{Image: "kssuuu", Mark: 27, Used: 8}},
		{": + - ; 5 3 + mark", grader.Result{Image: "kssuuu", Mark: 2, Used: 6}},
		{": mark 7 mark ; mark", grader.Result{Image: "kssuuu", Mark: 7, Used: 4}},
		{": dup 1 if dup exit then recurse ; 2 dup * mark", grader.Result{Image: "kssuuu", Mark: 4, Used: 8}},
		{"5 : a 1 ; mark", grader.Result{Image: "kssuuu", Mark: 5, Used: 2}},
		{"0 if 1 mark then : a 2 mark ; a", grader.Result{Image: "kssuuu", Mark: 2, Used: 6}},
		{": a begin 1 while 6 exit repeat ; a mark", grader.Result{Image: "kssuuu", Mark: 6, Used: 6}},
	})
}
