package cyclic_test

import (
	"math/rand/v2"
	"strconv"
	"strings"
	"testing"
	"time"

	"cyclic/cyclic"
)

// checkTable holds Write, and Read of what it answers, against whether the text
// is a table's.
func checkTable(t *testing.T, text string, right bool) {
	t.Helper()
	packed, errno := cyclic.Write(text)
	if !right {
		if packed != "" || errno != cyclic.ErrTable {
			t.Errorf("P5: Write(%q) = %q, %d, want ErrTable", text, packed, errno)
		}
		return
	}
	if packed == "" || errno != cyclic.OK {
		t.Errorf("P5: Write(%q) = %q, %d, want bytes and OK", text, packed, errno)
		return
	}
	if back, errno := cyclic.Read(packed); back != text || errno != cyclic.OK {
		t.Errorf("P6: Read(Write(%q)) = %q, %d", text, back, errno)
	}
}

func checkTables(t *testing.T, right bool, texts ...string) {
	t.Helper()
	for _, text := range texts {
		checkTable(t, text, right)
	}
}

// framed writes a table's text with the frames that are handed in.
func framed(cycle, frame int, frames ...string) string {
	text := "cycle " + strconv.Itoa(cycle) + " frame " + strconv.Itoa(frame) + ";\n"
	for _, f := range frames {
		text += f + ";\n"
	}
	return text
}

func TestTables(t *testing.T) {
	checkTables(t, true,
		"cycle 4 frame 2;\na0:1,b0:1;\nb0:1;\n",
		framed(12, 4, "a0:3", "a1:1,b0:3", "c0:2,a1:2"),
		framed(6, 6, "z0:1,y0:1,x0:1,a0:1,b0:1,c0:1"),
		framed(26, 26, "a0:1,b0:1,c0:1,d0:1,e0:1,f0:1,g0:1,h0:1,i0:1,j0:1,k0:1,l0:1,m0:1,n0:1,"+
			"o0:1,p0:1,q0:1,r0:1,s0:1,t0:1,u0:1,v0:1,w0:1,x0:1,y0:1,z0:1"),
		framed(12, 12, "a0:1,a1:1,a2:1,a3:1,a4:1,a5:1,a6:1,a7:1,a8:1,a9:1,a10:1,a11:1"),
	)
	checkTables(t, false,
		"", ";", "\n", "cycle", "cycle 4 frame 2", "cycle 4 frame 2;", "cycle 4 frame 2;\n",
		"task a every 4 takes 1 within 4;\n", "a0:1;\n",
		"frame 2 cycle 4;\n;\n;\n", "cycle 4;\n;\n", "cycle 4 frame;\n;\n", "cycle frame 2;\n;\n",
		"cycle 4 frame 2:\n;\n;\n", "cycle 4 frame 2,\n;\n;\n", "cycles 4 frame 2;\n;\n;\n",
		framed(4, 4, "a"), framed(4, 4, "a0"), framed(4, 4, "a0:"), framed(4, 4, "a:1"), framed(4, 4, "0:1"),
		framed(4, 4, ":1"), framed(4, 4, "a0;1"), framed(4, 4, "a0,1"), framed(4, 4, "a0:1,"), framed(4, 4, ",a0:1"),
		framed(4, 4, ","), framed(4, 4, "a0:1,,b0:1"), framed(4, 4, "a0:1b0:1"), framed(4, 4, "a0:1:1"),
		framed(4, 4, "ab0:1"), framed(4, 4, "A0:1"), framed(4, 4, "é0:1"), framed(4, 4, "a-1:1"), framed(4, 4, "a0:-1"),
		framed(4, 4, "a0:10000"), framed(4, 4, "a0:00001"), framed(4, 4, "a00000:1"),
	)
}

func TestTableWithoutSlices(t *testing.T) {
	for cycle := 1; cycle <= 60; cycle++ {
		checkTables(t, true, framed(cycle, cycle, ""), framed(cycle, 1, make([]string, cycle)...))
	}
}

// Frames that divide the cycle and frames that do not, and as many frames as
// there must be, or a few less or more.
func TestCyclesAndFrames(t *testing.T) {
	for cycle := range 63 {
		for frame := range 63 {
			for count := range 63 {
				right := cycle >= 1 && cycle <= 60 && count > 0 && frame*count == cycle
				checkTable(t, framed(cycle, frame, make([]string, count)...), right)
			}
		}
	}
	checkTables(t, false, framed(120, 60, "", ""), framed(256, 256, ""), framed(257, 257, ""), framed(316, 60, ""),
		framed(9999, 9999, ""), framed(60, 0), framed(0, 0), framed(0, 0, ""), framed(0, 60))
}

func TestBudgets(t *testing.T) {
	for frame := 1; frame <= 60; frame++ {
		for budget := range 63 {
			right := budget >= 1 && budget <= frame
			checkTable(t, framed(frame, frame, "a0:"+strconv.Itoa(budget)), right)
			rest := strconv.Itoa(frame - budget + 1)
			checkTable(t, framed(frame, frame, "a0:"+strconv.Itoa(budget)+",b0:"+rest), false)
		}
	}
	checkTables(t, true, framed(4, 2, "a0:1,b0:1", "a0:1,b0:1"), framed(4, 2, "a0:2", "a0:2"), framed(60, 30, "a0:30", "a0:30"),
		framed(60, 60, "a0:59,b0:1"), framed(60, 60, "a0:1,b0:59"))
	checkTables(t, false, framed(4, 2, "a0:1,b0:2", ""), framed(4, 2, "a0:1", "a0:3"), framed(4, 2, "", "a0:1,b0:1,c0:1"),
		framed(4, 2, "a0:2,b0:0", ""), framed(4, 2, "a0:0,b0:2", ""), framed(2, 2, "a0:0"), framed(2, 2, "a0:257"),
		framed(60, 60, "a0:60,b0:256"), framed(60, 60, "a0:59,b0:2"))
}

func TestWhichJob(t *testing.T) {
	checkTables(t, true,
		framed(6, 2, "a0:1", "a0:1", "a1:1"), framed(6, 2, "a0:1,a1:1", "a1:1,a2:1", "a3:1"),
		framed(6, 2, "a0:1", "", "a0:1"), framed(6, 2, "a0:1", "b0:1", "a1:1,b0:1"),
		framed(6, 2, "b0:1,a0:1", "a0:1,b0:1", "b1:1,a1:1"), framed(2, 2, "a0:1,a1:1"),
	)
	checkTables(t, false,
		framed(6, 2, "a1:1", "", ""), framed(6, 2, "a0:1", "a2:1", ""), framed(6, 2, "a0:1", "a1:1", "a0:1"),
		framed(6, 2, "a0:1", "b1:1", ""), framed(6, 2, "a0:1,b0:1", "b1:1", "a2:1"),
		framed(6, 2, "a0:1,a0:1", "", ""), framed(6, 2, "a0:1", "a1:1,a1:1", ""), framed(6, 2, "a0:1", "a0:1,a0:1", ""),
		framed(3, 3, "a0:1,b0:1,a0:1"), framed(3, 3, "a0:1,a1:1,a0:1"), framed(6, 6, "a0:1,a1:1,a1:1"),
		framed(6, 2, "a256:1", "", ""), framed(6, 2, "a0:1", "a256:1", ""), framed(6, 2, "a0:1", "a257:1", ""),
		framed(6, 2, "a9999:1", "", ""),
	)
}

// Every table of few frames with few slices.
func TestSmallTables(t *testing.T) {
	slices := []string{"a0:1", "a1:1", "a2:1", "b0:1", "b1:1", "a0:2", "a1:0"}
	frames := append([]string{""}, slices...)
	for _, first := range slices {
		for _, second := range slices {
			frames = append(frames, first+","+second)
		}
	}
	right := 0
	for _, first := range frames {
		for _, second := range frames {
			for _, third := range frames[:len(slices)+1] {
				text := framed(6, 2, first, second, third)
				checkTable(t, text, judgeTable(text))
				if judgeTable(text) {
					right++
				}
			}
		}
	}
	if right < 400 {
		t.Errorf("only %d of the tables are right: they are too poor", right)
	}
}

// Each byte of a table's text taken out, put in, or put in another's place.
func TestTableByteByByte(t *testing.T) {
	text := framed(20, 10, "a0:3,b0:7", "a1:10")
	checkTable(t, text, true)
	for i := range len(text) + 1 {
		for c := range 256 {
			put := string([]byte{byte(c)})
			more := text[:i] + put + text[i:]
			checkTable(t, more, judgeTable(more))
			if i < len(text) {
				other := text[:i] + put + text[i+1:]
				checkTable(t, other, judgeTable(other))
			}
		}
		less := text[:i] + text[min(i+1, len(text)):]
		checkTable(t, less, judgeTable(less))
		checkTable(t, text[:i], i == len(text))
	}
	checkTables(t, false, " "+text, "\n"+text, text+" ", text+"\n", text+"\x00", strings.TrimSuffix(text, "\n"),
		strings.ReplaceAll(text, "\n", ""), strings.ReplaceAll(text, "\n", "\r\n"), strings.ReplaceAll(text, " ", "  "),
		strings.ReplaceAll(text, ",", ", "), strings.ReplaceAll(text, ":", " : "), strings.ReplaceAll(text, ";", " ;"),
		strings.ReplaceAll(text, "a", "a "), strings.ReplaceAll(text, "20", "020"), strings.ReplaceAll(text, ":7", ":07"),
		strings.ReplaceAll(text, "a0", "a00"), text+text)
}

// longestTable has as many slices as a cycle has units, each as long as it can
// be written.
func longestTable() string {
	frames := make([]string, 60)
	for i := range frames {
		frames[i] = "a" + strconv.Itoa(i) + ":1"
	}
	return framed(60, 1, frames...)
}

func TestLongTables(t *testing.T) {
	long := longestTable()
	checkTable(t, long, true)
	for _, length := range []int{800, 801, 802, 1 << 20} {
		checkTables(t, false, padded(long, length, " "), padded(long, length, "\n"), padded(long, length, ";\n"), padded("", length, "?"))
	}
}

// What takes this long has not been refused by its length alone.
func TestLongTextsCostNothing(t *testing.T) {
	tail := strings.Repeat(" ", 1<<26)
	packed, _ := cyclic.Write(longestTable())
	texts := []string{tail, someTasks(1) + tail, longestTable() + tail, packed + tail}
	start := time.Now()
	for _, text := range texts {
		for range 200 {
			_, printed, _ := cyclic.Print(text)
			_, compiled, _ := cyclic.Compile(text)
			_, written := cyclic.Write(text)
			_, read := cyclic.Read(text)
			_, run := cyclic.Run(text, 4, nil)
			if printed != cyclic.ErrLong || compiled != cyclic.ErrLong || written != cyclic.ErrTable || read != cyclic.ErrTable || run != cyclic.ErrTable {
				t.Fatalf("P1: a long text is answered with %d, %d, %d, %d, %d", printed, compiled, written, read, run)
			}
			if time.Since(start) > 5*time.Second {
				t.Fatal("P1: long texts are gone through")
			}
		}
	}
}

// makeTable makes a right table: each slice is of a job that may come next.
func makeTable(m *rand.Rand) string {
	cycle := 1 + m.IntN(60)
	frame := 1 + m.IntN(cycle)
	for cycle%frame != 0 {
		frame--
	}
	begun := map[string]int{}
	frames := make([]string, cycle/frame)
	for i := range frames {
		here := map[string]bool{}
		var slices []string
		for left := frame; left > 0 && m.IntN(5) > 0; {
			name := string(rune('a' + m.IntN(6)))
			job := name + strconv.Itoa(begun[name]-1)
			if begun[name] == 0 || here[job] || m.IntN(2) == 0 {
				job = name + strconv.Itoa(begun[name])
				begun[name]++
			}
			here[job] = true
			budget := 1 + m.IntN(left)
			left -= budget
			slices = append(slices, job+":"+strconv.Itoa(budget))
		}
		frames[i] = strings.Join(slices, ",")
	}
	return framed(cycle, frame, frames...)
}

// spoil puts a byte, a token or nothing into the place of some bytes.
func spoil(m *rand.Rand, text string) string {
	start := m.IntN(len(text) + 1)
	end := min(len(text), start+m.IntN(3))
	put := pick(m, "", "", " ", "\n", ";", ";\n", ",", ":", "a", "b", "0", "1", "2", "3", "a0:1", "b0:1,", ",a1:1", "a1", "12345", "\x00", "\xff")
	return text[:start] + put + text[end:]
}

func TestWriteAgainstJudge(t *testing.T) {
	m := newMaker()
	right, spoilt := 0, 0
	for range 8000 {
		text := makeTable(m)
		checkTable(t, text, true)
		if !judgeTable(text) {
			t.Fatalf("the judge refuses %q", text)
		}
		text = spoil(m, text)
		checkTable(t, text, judgeTable(text))
		if judgeTable(text) {
			right++
		} else {
			spoilt++
		}
	}
	if right < 200 || spoilt < 2000 {
		t.Errorf("%d right and %d wrong texts are too few", right, spoilt)
	}
}
