package cyclic_test

import (
	"math"
	"math/rand/v2"
	"slices"
	"strings"
	"testing"

	"cyclic/cyclic"
)

// checkRun holds the trace of a table, handed in by its text, against the one
// that it must have.
func checkRun(t *testing.T, text string, ticks int, costs []int, want string) {
	t.Helper()
	trace, errno := cyclic.Run(mustWrite(t, text), ticks, costs)
	if trace != want || errno != cyclic.OK {
		t.Errorf("P10 to P12: of %q: Run(.., %d, %v) = %q, %d, want %q", text, ticks, costs, trace, errno, want)
	}
}

func checkNoRun(t *testing.T, packed string, ticks int, costs []int, want cyclic.Errno) {
	t.Helper()
	if trace, errno := cyclic.Run(packed, ticks, costs); trace != "" || errno != want {
		t.Errorf("P10: Run(%q, %d, %v) = %q, %d, want the error %d", packed, ticks, costs, trace, errno, want)
	}
}

// The table of the document's examples.
func shortTable() string { return framed(4, 2, "a0:1,b0:1", "b0:1") }

func TestRunExamples(t *testing.T) {
	checkRun(t, shortTable(), 6, nil, "abb.ab")
	checkRun(t, shortTable(), 4, []int{0, 3}, ".bb!b.")
	checkRun(t, shortTable(), 4, []int{2, 1}, "a!ab..")
}

// Less than a cycle, a whole one, and several.
func TestRunForSoManyTicks(t *testing.T) {
	text := framed(6, 3, "a0:1,b0:1", "c0:2,a0:1")
	want := strings.Repeat("ab.cca", 70)
	for ticks := range 401 {
		checkRun(t, text, ticks, nil, want[:ticks])
	}
	// A trace that ends ahead of a job's last tick does not tell of it yet.
	for ticks, want := range []string{"", "a", "ab!b", "ab!b.", "ab!b.c", "ab!b.cc!c", "ab!b.cc!ca!a", "ab!b.cc!ca!aa"} {
		checkRun(t, text, ticks, []int{9}, want)
	}
}

func TestRunWithoutSlices(t *testing.T) {
	for _, text := range []string{framed(1, 1, ""), framed(60, 60, ""), framed(60, 1, make([]string, 60)...), framed(7, 7, "")} {
		for _, costs := range [][]int{nil, {}, {0}, {1}, {400, 0}, make([]int, 40)} {
			for _, ticks := range []int{0, 1, 59, 60, 61, 400} {
				checkRun(t, text, ticks, costs, strings.Repeat(".", ticks))
			}
		}
	}
}

func TestRunAtItsBounds(t *testing.T) {
	least := framed(1, 1, "a0:1")
	checkRun(t, least, 0, nil, "")
	checkRun(t, least, 0, []int{400}, "")
	checkRun(t, least, 400, nil, strings.Repeat("a", 400))
	checkRun(t, least, 400, []int{}, strings.Repeat("a", 400))
	checkRun(t, least, 400, make([]int, 40), strings.Repeat(".", 400))
	checkRun(t, least, 400, []int{400}, strings.Repeat("a!a", 400))
	checkRun(t, least, 400, slices.Repeat([]int{400}, 40), strings.Repeat("a!a", 400))
	whole := framed(60, 60, "a0:60")
	checkRun(t, whole, 400, nil, strings.Repeat("a", 400))
	checkRun(t, whole, 121, []int{60}, strings.Repeat("a", 121))
	checkRun(t, whole, 60, []int{59}, strings.Repeat("a", 59)+".")
	checkRun(t, whole, 60, []int{61}, strings.Repeat("a", 60)+"!a")
	checkRun(t, whole, 59, []int{61}, strings.Repeat("a", 59))
}

// Each tick of a frame is that of the slice that lies there, one behind the
// other from the frame's beginning on, whatever the jobs get.
func TestSlicesKeepTheirPlaces(t *testing.T) {
	text := framed(10, 5, "a0:2,b0:2", "b0:1,a1:3")
	checkRun(t, text, 10, nil, "aabb.baaa.")
	checkRun(t, text, 10, []int{0}, "..........")
	checkRun(t, text, 10, []int{1}, "a.b...a...")
	checkRun(t, text, 10, []int{0, 3, 0}, "..bb.b....")
	checkRun(t, text, 10, []int{0, 0, 3}, "......aaa.")
	checkRun(t, text, 10, []int{1, 1, 1}, "a.b...a...")
	checkRun(t, text, 10, []int{5, 5, 5}, "aa!abb.b!baaa!a.")
}

func TestJobsInSeveralFrames(t *testing.T) {
	text := framed(8, 2, "a0:1", "b0:1", "a0:1,b0:1", "a0:1")
	for cost, want := range []string{"........", "a.b.....", "a.b.ab..", "a.b.ab!ba.", "a.b.ab!ba!a."} {
		checkRun(t, text, 8, []int{cost}, want)
	}
	// The end of a slice that is not the last one is told of no more than any
	// other tick.
	checkRun(t, text, 6, []int{400, 0}, "a...a.")
	checkRun(t, text, 7, []int{400, 0}, "a...a.a!a")
	// The last slice of a job is that of the cycle, not that of the trace.
	checkRun(t, text, 9, []int{3, 1, 1}, "a.b.a.a.a")
}

// The number of a job comes from where its first slice stands, not from its
// name, its number or where it ends.
func TestNumbersOfJobs(t *testing.T) {
	checkRun(t, framed(4, 4, "b0:2,a0:2"), 4, []int{0, 2}, "..aa")
	checkRun(t, framed(6, 2, "b0:1,a0:1", "a0:1,c0:1", "c0:1,b0:1"), 6, []int{2, 0, 1}, "b..c.b")
	checkRun(t, framed(6, 2, "a0:1,a1:1", "b0:1,a1:1", "a2:1,b0:1"), 6, []int{1, 2, 0, 2}, "aa.aa!a.")
}

// Six cycles of two jobs each: the numbers go on from cycle to cycle, and the
// costs come again, whether they are fewer than the jobs or more.
func TestNumbersGoOn(t *testing.T) {
	text := framed(2, 1, "a0:1", "b0:1")
	checkRun(t, text, 12, []int{1, 0, 0}, "a..b..a..b..")
	checkRun(t, text, 12, []int{0, 0, 0, 0, 1}, "....a....b..")
	checkRun(t, text, 12, []int{0, 0, 0, 0, 0, 0, 0, 2}, ".......b!b....")
	checkRun(t, text, 12, []int{0, 1}, ".b.b.b.b.b.b")
	checkRun(t, text, 12, []int{0, 0, 0, 0, 0, 0, 0, 0, 0, 0, 0, 0, 1}, "............")
	many := make([]int, 40)
	many[39] = 2
	checkRun(t, text, 120, many, strings.Repeat(strings.Repeat(".", 39)+"b!b", 3))
}

// What a job wanted and did not get is not handed on to the next one.
func TestNextJobBeginsAnew(t *testing.T) {
	checkRun(t, framed(4, 2, "a0:1", "a1:1"), 8, []int{9, 0}, "a!a...a!a...")
	checkRun(t, framed(2, 2, "a0:1,a1:1"), 4, []int{9, 0}, "a!a.a!a.")
	checkRun(t, framed(2, 2, "a0:1"), 6, []int{9, 0}, "a!a...a!a.")
	checkRun(t, framed(4, 2, "a0:1", "a0:1"), 8, []int{1, 2}, "a...a.a.")
	checkRun(t, framed(4, 2, "a0:2", "a0:2"), 8, []int{1, 4}, "a...aaaa")
}

func TestTicksOutOfTheirBounds(t *testing.T) {
	packed := mustWrite(t, shortTable())
	for _, wrong := range []int{math.MinInt, -401, -400, -1, 401, 402, 1 << 16, 1<<16 + 1, math.MaxInt} {
		checkNoRun(t, packed, wrong, nil, cyclic.ErrTicks)
		checkNoRun(t, packed, wrong, []int{1}, cyclic.ErrTicks)
		for length := 1; length <= 40; length++ {
			for _, at := range []int{0, length / 2, length - 1} {
				costs := make([]int, length)
				costs[at] = wrong
				checkNoRun(t, packed, 0, costs, cyclic.ErrTicks)
				checkNoRun(t, packed, 400, costs, cyclic.ErrTicks)
				checkNoRun(t, packed, wrong, costs, cyclic.ErrTicks)
			}
		}
	}
	for _, length := range []int{41, 42, 400, 1 << 16} {
		checkNoRun(t, packed, 0, make([]int, length), cyclic.ErrTicks)
		checkNoRun(t, packed, 4, make([]int, length), cyclic.ErrTicks)
		checkNoRun(t, packed, -1, slices.Repeat([]int{-1}, length), cyclic.ErrTicks)
	}
}

// checkRunAsRead lets Run take what Read takes, and refuse what Read refuses,
// whatever else is wrong.
func checkRunAsRead(t *testing.T, packed string) {
	t.Helper()
	if _, errno := cyclic.Read(packed); errno == cyclic.OK {
		if trace, errno := cyclic.Run(packed, 4, []int{0}); trace != "...." || errno != cyclic.OK {
			t.Errorf("P10: Run(%q, 4, [0]) = %q, %d", packed, trace, errno)
		}
		checkNoRun(t, packed, -1, nil, cyclic.ErrTicks)
		return
	}
	checkNoRun(t, packed, 4, nil, cyclic.ErrTable)
	checkNoRun(t, packed, 401, nil, cyclic.ErrTable)
	checkNoRun(t, packed, 4, []int{1, -1}, cyclic.ErrTable)
	checkNoRun(t, packed, -1, make([]int, 41), cyclic.ErrTable)
}

func TestRunOfNoTables(t *testing.T) {
	m := newMaker()
	for range 4000 {
		checkRunAsRead(t, makeBytes(m))
		checkRunAsRead(t, sealed(makeBody(m)))
	}
	for _, text := range append(makeTexts(1000), makeTables(t, 1000)...) {
		checkRunAsRead(t, text)
	}
	for _, text := range someTables() {
		packed := mustWrite(t, text)
		for bit := range 8 * len(packed) {
			checkNoRun(t, turned(packed, bit, 1), 4, nil, cyclic.ErrTable)
		}
		for end := range packed {
			checkNoRun(t, packed[:end], 4, nil, cyclic.ErrTable)
		}
		checkNoRun(t, packed+"\x00", 4, nil, cyclic.ErrTable)
		checkNoRun(t, text, -1, []int{401}, cyclic.ErrTable)
	}
}

// makeCosts makes costs around what a job's budget may be, or of any size.
func makeCosts(m *rand.Rand) []int {
	costs := make([]int, max(0, m.IntN(48)-8)+m.IntN(2))
	most := []int{1, 2, 4, 12, 60, 400}[m.IntN(6)]
	for i := range costs {
		costs[i] = m.IntN(most + 1)
	}
	return costs
}

func TestRunAgainstJudge(t *testing.T) {
	m := newMaker()
	told, went := 0, 0
	for range 20000 {
		text, costs, ticks := makeTable(m), makeCosts(m), m.IntN(401)
		want := judgeRun(text, ticks, costs)
		checkRun(t, text, ticks, costs, want)
		if strings.Contains(want, "!") {
			told++
		} else if strings.Trim(want, ".") != "" {
			went++
		}
	}
	if told < 2000 || went < 2000 {
		t.Errorf("%d traces with and %d without a `!` are too few", told, went)
	}
}

// Every small table, with every few costs.
func TestSmallRuns(t *testing.T) {
	lists := [][]int{nil}
	for first := range 4 {
		lists = append(lists, []int{first})
		for second := range 4 {
			lists = append(lists, []int{first, second})
			for third := range 4 {
				lists = append(lists, []int{first, second, third})
			}
		}
	}
	frames := []string{"", "a0:1", "a0:2", "a1:1", "b0:1", "a0:1,b0:1", "b0:1,a0:1", "a0:1,a1:1", "b0:1,a1:1", "a1:1,b0:1", "a1:1,a2:1"}
	for _, first := range frames {
		for _, second := range frames {
			text := framed(4, 2, first, second)
			if !judgeTable(text) {
				continue
			}
			for _, costs := range lists {
				checkRun(t, text, 13, costs, judgeRun(text, 13, costs))
			}
		}
	}
}

// checkCostsStay runs with a piece of a longer list: neither the piece nor what
// lies around it may change.
func checkCostsStay(t *testing.T, packed string, ticks int, costs []int, from, to int) {
	t.Helper()
	kept := slices.Clone(costs)
	cyclic.Run(packed, ticks, costs[from:to])
	if !slices.Equal(costs, kept) {
		t.Errorf("P1: Run(%q, %d, ..): the costs %v became %v", packed, ticks, kept, costs)
	}
}

func TestCostsStay(t *testing.T) {
	m := newMaker()
	costs := []int{-1, 3, 0, 9, 400, 401, 1}
	for range 500 {
		text := makeTable(m)
		packed := mustWrite(t, text)
		for from := range costs {
			for to := from; to <= len(costs); to++ {
				checkCostsStay(t, packed, m.IntN(401), costs, from, to)
			}
		}
		checkCostsStay(t, text, 4, costs, 1, 4)
		checkCostsStay(t, packed, -1, costs, 1, 4)
		checkCostsStay(t, packed, 400, slices.Repeat([]int{7, 0, 2}, 14), 1, 41)
	}
}

// A list that is changed behind a call has no part in the next one.
func TestCostsAreNotKept(t *testing.T) {
	costs := []int{0, 3}
	checkRun(t, shortTable(), 4, costs, ".bb!b.")
	costs[0], costs[1] = 2, 1
	checkRun(t, shortTable(), 4, nil, "abb.")
	checkRun(t, shortTable(), 4, costs, "a!ab..")
	checkRun(t, shortTable(), 4, []int{0, 3}, ".bb!b.")
}
