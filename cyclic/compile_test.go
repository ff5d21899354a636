package cyclic_test

import (
	"math/rand/v2"
	"strconv"
	"strings"
	"testing"

	"cyclic/cyclic"
)

func compile3(set string) judged {
	packed, errno, place := cyclic.Compile(set)
	return judged{packed, errno, place}
}

// checkCompile holds what Compile answers for a right set against the judge,
// and answers the error and the table's frame.
func checkCompile(t *testing.T, set string) (errno cyclic.Errno, frame int) {
	t.Helper()
	got, plan := compile3(set), judgePlan(set)
	widest := plan.widest()
	if got.place != 0 || got.errno != cyclic.OK && got.text != "" {
		t.Fatalf("P1, P8: Compile(%q) = %v", set, got)
	}
	if (got.errno == cyclic.ErrLoad) != (widest == 0) {
		t.Fatalf("P8: Compile(%q) = %v, and its greatest frame is %d", set, got, widest)
	}
	switch got.errno {
	case cyclic.OK:
		return cyclic.OK, checkKept(t, set, got.text, plan, widest)
	case cyclic.ErrLoad:
	case cyclic.ErrOrder:
		if len(plan.pairs) == 0 || plan.goesByUnits() {
			t.Fatalf("P8, P9: Compile(%q) = %v, pairs %v, and unit by unit goes", set, got, plan.pairs)
		}
	default:
		t.Fatalf("P8: Compile(%q) = %v", set, got)
	}
	return got.errno, 0
}

func checkKept(t *testing.T, set, packed string, plan judgedPlan, widest int) (frame int) {
	t.Helper()
	text, errno := cyclic.Read(packed)
	if errno != cyclic.OK || mustWrite(t, text) != packed {
		t.Fatalf("P8: Compile(%q) = %q: no table that Write answers", set, packed)
	}
	if why := plan.notKept(text); why != "" {
		t.Fatalf("P8: Compile(%q) is the table %q: %s", set, text, why)
	}
	frame = numeral(tableTexts.FindStringSubmatch(text)[2])
	if len(plan.pairs) == 0 && frame != widest {
		t.Fatalf("P8: Compile(%q) has the frame %d, and %d goes", set, frame, widest)
	}
	return frame
}

// planned is a set with what its compiling must answer. The frame is told only
// of sets without pairs.
type planned struct {
	set   string
	errno cyclic.Errno
	frame int
}

func checkPlanned(t *testing.T, cases ...planned) {
	t.Helper()
	for _, c := range cases {
		errno, frame := checkCompile(t, c.set)
		if errno != c.errno || c.frame != 0 && frame != c.frame {
			t.Errorf("P8, P9: Compile(%q): %d with the frame %d, want %d with %d", c.set, errno, frame, c.errno, c.frame)
		}
	}
}

func TestCompileExamples(t *testing.T) {
	checkPlanned(t,
		planned{"task a every 4 takes 1 within 4; task b every 8 takes 3 within 8;", cyclic.OK, 4},
		planned{"task a every 5 takes 3 within 5; task b every 5 takes 3 within 5;", cyclic.ErrLoad, 0},
	)
}

func TestGreatestFrames(t *testing.T) {
	checkPlanned(t,
		planned{"task a every 1 takes 1 within 1;", cyclic.OK, 1},
		planned{"task a every 12 takes 1 within 12;", cyclic.OK, 12},
		planned{"task a every 12 takes 12 within 12;", cyclic.OK, 12},
		// A deadline below the period: frames must end there.
		planned{"task a every 12 takes 1 within 11;", cyclic.OK, 6},
		planned{"task a every 12 takes 6 within 11;", cyclic.OK, 6},
		planned{"task a every 12 takes 7 within 11;", cyclic.OK, 4},
		planned{"task a every 12 takes 9 within 11;", cyclic.OK, 3},
		planned{"task a every 12 takes 10 within 11;", cyclic.OK, 2},
		planned{"task a every 12 takes 11 within 11;", cyclic.OK, 1},
		planned{"task a every 12 takes 1 within 1;", cyclic.OK, 1},
		// A release that is not 0: frames must begin there.
		planned{"task a every 12 from 1 takes 1 within 11;", cyclic.OK, 6},
		planned{"task a every 12 from 1 takes 7 within 11;", cyclic.OK, 4},
		planned{"task a every 12 from 1 takes 10 within 11;", cyclic.OK, 2},
		planned{"task a every 12 from 11 takes 1 within 1;", cyclic.OK, 1},
		planned{"task a every 12 from 4 takes 4 within 4;", cyclic.OK, 4},
		planned{"task a every 12 from 5 takes 2 within 4;", cyclic.OK, 3},
		planned{"task a every 12 from 5 takes 3 within 4;", cyclic.OK, 3},
		planned{"task a every 12 from 5 takes 4 within 4;", cyclic.OK, 1},
		// Several tasks, and jobs in several frames.
		planned{"task a every 4 takes 4 within 4;task b every 4 takes 1 within 4;", cyclic.ErrLoad, 0},
		planned{"task a every 4 takes 3 within 4;task b every 4 takes 1 within 4;", cyclic.OK, 4},
		planned{"task a every 4 takes 3 within 4;task b every 12 takes 3 within 12;", cyclic.OK, 4},
		planned{"task a every 4 takes 3 within 4;task b every 12 takes 4 within 12;", cyclic.ErrLoad, 0},
		planned{"task a every 6 takes 3 within 6;task b every 12 takes 5 within 9;", cyclic.OK, 4},
		planned{"task a every 3 takes 1 within 3;task b every 4 takes 1 within 4;", cyclic.OK, 2},
		planned{"task a every 3 takes 1 within 3;task b every 4 takes 2 within 4;", cyclic.OK, 2},
		planned{"task a every 2 takes 1 within 2;task b every 3 takes 1 within 3;", cyclic.OK, 2},
		planned{"task a every 2 takes 1 within 1;task b every 2 from 1 takes 1 within 1;", cyclic.OK, 1},
		planned{"task a every 2 takes 1 within 1;task b every 2 takes 1 within 1;", cyclic.ErrLoad, 0},
		planned{"task b every 8 takes 4 within 8;task a every 8 from 2 takes 4 within 4;", cyclic.OK, 2},
		planned{"task b every 8 takes 4 within 7;task a every 8 from 2 takes 4 within 4;", cyclic.ErrLoad, 0},
	)
}

func TestFullCycles(t *testing.T) {
	checkPlanned(t,
		planned{"task a every 2 takes 1 within 2;task b every 4 takes 2 within 4;", cyclic.OK, 2},
		planned{"task a every 2 takes 1 within 2;task b every 4 takes 1 within 4;task c every 4 takes 1 within 4;", cyclic.OK, 2},
		planned{"task a every 3 takes 1 within 3;task b every 4 takes 2 within 4;task c every 6 takes 1 within 6;", cyclic.OK, 2},
		planned{"task a every 3 takes 1 within 3;task b every 4 takes 2 within 4;task c every 6 takes 2 within 6;", cyclic.ErrLoad, 0},
		planned{"task a every 5 takes 2 within 5;task b every 5 takes 2 within 5;task c every 5 takes 1 within 5;", cyclic.OK, 5},
		planned{"task a every 5 takes 2 within 5;task b every 5 takes 2 within 5;task c every 5 takes 2 within 5;", cyclic.ErrLoad, 0},
		planned{"task a every 5 takes 2 within 2;task b every 5 from 2 takes 3 within 3;", cyclic.OK, 1},
	)
	// Not too much for the cycle, but for some of it.
	checkPlanned(t,
		planned{"task a every 10 takes 2 within 3;task b every 10 takes 2 within 3;", cyclic.ErrLoad, 0},
		planned{"task a every 10 from 7 takes 2 within 3;task b every 10 from 7 takes 2 within 3;", cyclic.ErrLoad, 0},
		planned{"task a every 10 from 4 takes 2 within 3;task b every 10 from 3 takes 3 within 4;", cyclic.ErrLoad, 0},
		planned{"task a every 10 from 4 takes 2 within 3;task b every 10 from 3 takes 3 within 5;", cyclic.OK, 1},
	)
}

func sixTasks(rest string) string {
	var out strings.Builder
	for _, letter := range "abcdef" {
		out.WriteString("task " + string(letter) + " " + rest + ";\n")
	}
	return out.String()
}

func TestCompileAtItsBounds(t *testing.T) {
	checkPlanned(t,
		planned{"task a every 60 takes 60 within 60;", cyclic.OK, 60},
		planned{"task a every 60 takes 1 within 60;", cyclic.OK, 60},
		planned{"task a every 60 takes 1 within 59;", cyclic.OK, 30},
		planned{"task a every 60 from 59 takes 1 within 1;", cyclic.OK, 1},
		planned{"task a every 60 from 1 takes 59 within 59;", cyclic.OK, 1},
		planned{"task a every 60 takes 59 within 60;task b every 60 takes 1 within 60;", cyclic.OK, 60},
		planned{"task a every 60 takes 60 within 60;task b every 60 takes 1 within 60;", cyclic.ErrLoad, 0},
		planned{"task a every 60 takes 60 within 60;task b every 1 takes 1 within 1;", cyclic.ErrLoad, 0},
		// Sixty jobs, and cycles of 60 that no period has.
		planned{"task a every 1 takes 1 within 1;task b every 60 takes 1 within 60;", cyclic.ErrLoad, 0},
		planned{"task a every 2 takes 1 within 2;task b every 60 takes 30 within 60;", cyclic.OK, 2},
		planned{"task a every 4 takes 1 within 4;task b every 15 takes 1 within 15;", cyclic.OK, 4},
		planned{"task a every 12 takes 6 within 12;task b every 20 takes 10 within 20;", cyclic.OK, 4},
		planned{"task a every 3 takes 1 within 3;task b every 4 takes 1 within 4;task c every 5 takes 1 within 5;task d every 60 takes 13 within 60;", cyclic.OK, 2},
		planned{"task a every 3 takes 1 within 3;task b every 4 takes 1 within 4;task c every 5 takes 1 within 5;task d every 60 takes 14 within 60;", cyclic.ErrLoad, 0},
		// Six tasks.
		planned{sixTasks("every 60 takes 10 within 60"), cyclic.OK, 60},
		planned{sixTasks("every 6 takes 1 within 6"), cyclic.OK, 6},
		planned{sixTasks("every 5 takes 1 within 5"), cyclic.ErrLoad, 0},
		planned{sixTasks("every 12 from 2 takes 1 within 8"), cyclic.OK, 3},
		planned{sixTasks("every 12 takes 1 within 6"), cyclic.OK, 6},
		planned{sixTasks("every 12 takes 1 within 5"), cyclic.ErrLoad, 0},
		planned{sixTasks("every 60 takes 11 within 60"), cyclic.ErrLoad, 0},
	)
}

func TestBefore(t *testing.T) {
	two := "task a every 4 takes 2 within 4;task b every 4 takes 2 within 4;"
	waits := "task a every 6 from 3 takes 1 within 3;"
	checkPlanned(t,
		planned{two + "before a b;", cyclic.OK, 0},
		planned{two + "before b a;", cyclic.OK, 0},
		planned{two + "before a b;before a b;", cyclic.OK, 0},
		planned{two + "before a b;before b a;", cyclic.ErrOrder, 0},
		planned{"task a every 4 takes 2 within 2;task b every 4 takes 2 within 4;before a b;", cyclic.OK, 0},
		planned{"task a every 4 takes 2 within 2;task b every 4 takes 2 within 4;before b a;", cyclic.ErrOrder, 0},
		// The least deadline has to wait for another one's job.
		planned{"task a every 6 takes 1 within 2;task b every 6 takes 1 within 6;before b a;", cyclic.OK, 0},
		planned{"task a every 6 takes 1 within 2;task b every 6 takes 2 within 6;before b a;", cyclic.ErrOrder, 0},
		// What comes behind is released ahead.
		planned{waits + "task b every 6 takes 2 within 6;before a b;", cyclic.OK, 0},
		planned{waits + "task b every 6 takes 3 within 6;before a b;", cyclic.ErrOrder, 0},
		planned{waits + "task b every 6 takes 3 within 6;before b a;", cyclic.OK, 0},
		planned{waits + "task b every 6 takes 5 within 6;before b a;", cyclic.OK, 0},
		planned{waits + "task b every 6 takes 5 within 6;before a b;", cyclic.ErrOrder, 0},
		// Each job waits for the one of its own number alone.
		planned{"task a every 3 from 1 takes 1 within 2;task b every 3 takes 1 within 3;task c every 6 takes 2 within 6;before a b;", cyclic.OK, 0},
		planned{"task a every 3 from 2 takes 1 within 1;task b every 3 takes 1 within 3;task c every 6 takes 2 within 6;before a b;", cyclic.ErrOrder, 0},
		planned{"task a every 30 takes 20 within 30;task b every 30 takes 10 within 30;task c every 60 takes 1 within 60;before b a;", cyclic.ErrLoad, 0},
		planned{"task a every 30 takes 20 within 30;task b every 30 takes 9 within 30;task c every 60 takes 2 within 60;before b a;", cyclic.OK, 0},
	)
}

func TestApart(t *testing.T) {
	checkPlanned(t,
		planned{"task a every 4 takes 1 within 4;task b every 8 takes 3 within 8;apart a b;", cyclic.OK, 0},
		planned{"task a every 2 takes 1 within 2;task b every 8 takes 2 within 8;apart a b;", cyclic.OK, 0},
		planned{"task a every 2 takes 1 within 2;task b every 8 takes 2 within 8;apart b a;", cyclic.OK, 0},
		planned{"task a every 2 takes 1 within 2;task b every 8 takes 3 within 8;apart a b;", cyclic.ErrOrder, 0},
		planned{"task a every 2 takes 1 within 2;task b every 8 takes 3 within 8;apart b a;", cyclic.ErrOrder, 0},
		planned{"task a every 2 takes 1 within 1;task b every 8 takes 1 within 8;apart a b;", cyclic.OK, 0},
		planned{"task a every 2 takes 1 within 1;task b every 8 takes 2 within 8;apart a b;", cyclic.ErrOrder, 0},
		// The least deadline has to wait for what has begun.
		planned{"task a every 8 takes 2 within 8;task b every 8 from 1 takes 1 within 2;apart a b;", cyclic.OK, 0},
		planned{"task a every 8 takes 2 within 8;task b every 8 from 1 takes 1 within 2;apart b a;", cyclic.OK, 0},
		planned{"task a every 8 takes 5 within 8;task b every 8 from 2 takes 2 within 4;apart a b;", cyclic.ErrOrder, 0},
		// A third task may run within both, or within one.
		planned{"task a every 8 takes 4 within 8;task b every 8 takes 2 within 8;task c every 4 from 1 takes 1 within 1;apart a b;", cyclic.OK, 0},
		planned{"task a every 8 takes 4 within 8;task b every 8 takes 2 within 8;task c every 4 from 1 takes 1 within 1;apart a b;apart b c;", cyclic.OK, 0},
		planned{"task a every 8 takes 4 within 8;task b every 8 takes 2 within 8;task c every 4 from 1 takes 1 within 1;apart a c;", cyclic.ErrOrder, 0},
		planned{"task a every 60 takes 30 within 60;task b every 60 takes 30 within 60;apart a b;", cyclic.OK, 0},
	)
}

func TestBothKindsOfPairs(t *testing.T) {
	six := sixTasks("every 6 takes 1 within 6")
	long := sixTasks("every 60 takes 10 within 60")
	checkPlanned(t,
		planned{"task a every 6 takes 2 within 6;task b every 6 takes 2 within 6;before b a;apart a b;", cyclic.OK, 0},
		planned{"task a every 6 takes 2 within 6;task b every 6 takes 2 within 6;task c every 3 takes 1 within 3;before b a;apart a b;apart a c;", cyclic.OK, 0},
		planned{six + "before f e;before e d;before d c;before c b;before b a;apart a f;", cyclic.OK, 0},
		planned{six + "before f e;before e d;before d c;before c b;before b a;before a f;", cyclic.ErrOrder, 0},
		planned{six + "before f e;before f d;before f c;before f b;before f a;before a b;", cyclic.OK, 0},
		planned{six + strings.Repeat("before b a;", 6), cyclic.OK, 0},
		planned{long + "apart a b;apart b c;apart c d;apart d e;apart e f;apart f a;", cyclic.OK, 0},
		planned{long + "before c a;before d b;before f e;apart a b;apart c d;apart e f;", cyclic.OK, 0},
		planned{long + "before a c;before c e;before e a;apart b d;apart d f;apart f b;", cyclic.ErrOrder, 0},
	)
}

func TestLoadComesAheadOfOrder(t *testing.T) {
	checkPlanned(t,
		planned{"task a every 5 takes 3 within 5;task b every 5 takes 3 within 5;before a b;", cyclic.ErrLoad, 0},
		planned{"task a every 5 takes 3 within 5;task b every 5 takes 3 within 5;before a b;before b a;", cyclic.ErrLoad, 0},
		planned{"task a every 5 takes 2 within 5;task b every 5 takes 3 within 5;before a b;before b a;", cyclic.ErrOrder, 0},
		planned{"task a every 2 takes 2 within 2;task b every 8 takes 4 within 8;apart a b;", cyclic.ErrLoad, 0},
	)
}

func TestCompileRefusesAsPrint(t *testing.T) {
	var cases []printCase
	cases = append(cases, refused(cyclic.ErrForm, "^", "task a every 4 takes 1 within 4^", "task a ^4;", someTasks(2)+"^x", someTasks(6)+"^task")...)
	cases = append(cases, refused(cyclic.ErrName, someTasks(2)+"task ^b every 6 takes 1 within 6;", someTasks(2)+"apart a ^c;")...)
	cases = append(cases, refused(cyclic.ErrTime, "task a every ^61 takes 1 within 1;", "task a every 6 from ^6 takes 1 within 1;",
		"task a every 6 takes ^7 within 6;", "task a every 6 from 3 takes 2 within ^4;")...)
	cases = append(cases, refused(cyclic.ErrPair, someTasks(2)+"before a ^a;", someTasks(2)+"task c every 3 takes 1 within 3;before a ^c;")...)
	// Wrong in its form or its numbers, and too much to do.
	cases = append(cases, refused(cyclic.ErrTime, someTasks(1)+"task b every 6 takes 6 within 6;task c every 6 takes ^0 within 6;", "^task a every 8 takes 8 within 8;task b every 9 takes 9 within 9;")...)
	cases = append(cases, printCase{padded(someTasks(1), 401, " "), "", cyclic.ErrLong, 0})
	for _, c := range cases {
		if got := compile3(c.set); got != (judged{"", c.errno, c.place}) {
			t.Errorf("P8: Compile(%q) = %v, want %d, %d", c.set, got, c.errno, c.place)
		}
	}
}

// Texts of any bytes, wrong sets and right ones: wrong ones are answered as
// Print does.
func TestCompileOfAnyTexts(t *testing.T) {
	for _, text := range makeTexts(8000) {
		want := judgePrint(text)
		if want.errno == cyclic.OK {
			checkCompile(t, text)
		} else if got := compile3(text); got != want {
			t.Fatalf("P8: Compile(%q) = %v, want %v", text, got, want)
		}
	}
}

// smallTasks lists what may stand behind a task's name, for all periods up to
// a greatest one.
func smallTasks(most int) []string {
	var tasks []string
	for period := 1; period <= most; period++ {
		for offset := range period {
			for within := 1; within <= period-offset; within++ {
				for cost := 1; cost <= within; cost++ {
					tasks = append(tasks, " every "+strconv.Itoa(period)+" from "+strconv.Itoa(offset)+
						" takes "+strconv.Itoa(cost)+" within "+strconv.Itoa(within)+";")
				}
			}
		}
	}
	return tasks
}

// checkWithPairs leaves out what is no right set: a before pair of tasks with
// different periods.
func checkWithPairs(t *testing.T, tasks string, pairs ...string) {
	t.Helper()
	for _, behind := range pairs {
		if set := tasks + behind; print3(set).errno == cyclic.OK {
			checkCompile(t, set)
		}
	}
}

func TestSmallSets(t *testing.T) {
	for _, a := range smallTasks(4) {
		checkWithPairs(t, "task a"+a, "")
		for _, b := range smallTasks(4) {
			checkWithPairs(t, "task a"+a+"task b"+b,
				"", "before a b;", "before b a;", "apart a b;", "before b a;apart b a;", "before a b;before b a;")
		}
	}
	for _, a := range smallTasks(3) {
		for _, b := range smallTasks(3) {
			for _, c := range smallTasks(3) {
				checkWithPairs(t, "task a"+a+"task b"+b+"task c"+c,
					"", "before c a;", "apart b c;", "apart a b;apart c a;", "before b a;apart c a;", "before c b;before b a;")
			}
		}
	}
}

// makeRightTask makes a task that has from one unit up to a share of its
// period.
func makeRightTask(m *rand.Rand, letter string, period int) string {
	offset := 0
	if m.IntN(3) == 0 {
		offset = m.IntN(period)
	}
	room := period - offset
	cost := min(room, 1+m.IntN(max(1, period/3)))
	within := room
	if m.IntN(3) == 0 {
		within = cost + m.IntN(room-cost+1)
	}
	return "task " + letter + " every " + strconv.Itoa(period) + " from " + strconv.Itoa(offset) +
		" takes " + strconv.Itoa(cost) + " within " + strconv.Itoa(within) + ";"
}

// makeRightSet leaves pairs out that would be wrong.
func makeRightSet(m *rand.Rand) string {
	cycle := []int{4, 8, 12, 24, 30, 48, 60, 60}[m.IntN(8)]
	var periods []int
	for period := 3; period <= cycle; period++ {
		if cycle%period == 0 {
			periods = append(periods, period)
		}
	}
	set := ""
	letters := []string{"a", "b", "c", "d", "e", "f"}[:1+m.IntN(6)]
	for _, letter := range letters {
		set += makeRightTask(m, letter, periods[m.IntN(len(periods))])
	}
	for range max(0, m.IntN(10)-3) {
		with := set + pick(m, "before ", "apart ") + pick(m, letters...) + " " + pick(m, letters...) + ";"
		if print3(with).errno == cyclic.OK {
			set = with
		}
	}
	return set
}

func TestCompileAgainstJudge(t *testing.T) {
	m := newMaker()
	seen := map[cyclic.Errno]int{}
	frames := map[int]int{}
	for range 6000 {
		set := makeRightSet(m)
		errno, frame := checkCompile(t, set)
		seen[errno]++
		frames[frame]++
	}
	for _, errno := range []cyclic.Errno{cyclic.OK, cyclic.ErrLoad, cyclic.ErrOrder} {
		if seen[errno] < 200 {
			t.Errorf("only %d sets have the answer %d: the sets are too poor", seen[errno], errno)
		}
	}
	for _, frame := range []int{1, 2, 3, 4, 5, 6, 10, 12, 30} {
		if frames[frame] < 20 {
			t.Errorf("only %d sets have the frame %d: the sets are too poor", frames[frame], frame)
		}
	}
}

// Without pairs the judge's two ways to the load must agree.
func TestJudgeOfPlans(t *testing.T) {
	m := newMaker()
	for range 2000 {
		set, _, _ := strings.Cut(makeRightSet(m), "before")
		set, _, _ = strings.Cut(set, "apart")
		if plan := judgePlan(set); plan.goesByUnits() != (plan.widest() > 0) {
			t.Fatalf("unit by unit goes: %v; the greatest frame: %d; of %q", plan.goesByUnits(), plan.widest(), set)
		}
	}
}

// What the judge lets pass, no test of Compile finds.
func TestJudgeOfTables(t *testing.T) {
	set := "task a every 4 takes 2 within 4;task b every 8 from 2 takes 2 within 6;task c every 4 takes 1 within 4;"
	for _, c := range []struct {
		pairs string
		text  string
		kept  bool
	}{
		{"", framed(8, 4, "a0:2,c0:1", "c1:1,a1:1,b0:2"), false},
		{"", framed(8, 4, "a0:2,c0:1", "a1:2,b0:2"), false},
		{"", framed(8, 2, "a0:2", "b0:1,c0:1", "a1:1,b0:1", "a1:1,c1:1"), true},
		{"", framed(8, 2, "a0:2", "b0:2", "a1:1,c0:1", "a1:1,c1:1"), false},
		{"", framed(8, 2, "a0:1,b0:1", "a0:1,c0:1", "a1:1,b0:1", "a1:1,c1:1"), false},
		{"", framed(8, 2, "a0:2", "b0:1,c0:1", "a1:1,b0:1", "a1:1,d0:1"), false},
		{"", framed(8, 2, "a0:2", "b0:1,c0:1", "a1:2", "b0:1,c1:1"), true},
		{"", framed(8, 2, "a0:2", "b0:1", "c0:1,a1:1", "a1:1,b0:1"), false},
		{"", framed(4, 2, "a0:2", "b0:2"), false},
		{"before a c;", framed(8, 2, "a0:2", "b0:1,c0:1", "a1:2", "b0:1,c1:1"), true},
		{"before c a;", framed(8, 2, "a0:2", "b0:1,c0:1", "a1:2", "b0:1,c1:1"), false},
		{"before a c;", framed(8, 2, "a0:2", "b0:1,c0:1", "a1:1,b0:1", "c1:1,a1:1"), false},
		{"before a c;", framed(8, 2, "a0:2", "b0:1,c0:1", "a1:1,b0:1", "a1:1,c1:1"), true},
		{"apart a b;", framed(8, 2, "a0:2", "b0:1,c0:1", "a1:2", "b0:1,c1:1"), false},
		{"apart b a;", framed(8, 2, "a0:2", "b0:1,c0:1", "a1:2", "b0:1,c1:1"), false},
		{"apart a b;", framed(8, 2, "a0:2", "b0:1,c0:1", "b0:1,a1:1", "a1:1,c1:1"), true},
		{"apart a b;", framed(8, 2, "a0:2", "b0:1,c0:1", "a1:1,b0:1", "a1:1,c1:1"), false},
		{"apart b c;", framed(8, 2, "a0:2", "b0:1,c0:1", "b0:1,a1:1", "a1:1,c1:1"), false},
		{"apart c b;", framed(8, 2, "a0:2", "c0:1,b0:1", "b0:1,a1:1", "a1:1,c1:1"), true},
	} {
		if why := judgePlan(set + c.pairs).notKept(c.text); (why == "") != c.kept {
			t.Errorf("%q of %q with %q: %q", c.text, set, c.pairs, why)
		}
	}
}
