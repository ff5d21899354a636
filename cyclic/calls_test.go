package cyclic_test

import (
	"math"
	"math/rand/v2"
	"slices"
	"strconv"
	"strings"
	"sync"
	"testing"

	"cyclic/cyclic"
)

// A fixed seed: each run makes the same texts.
func newMaker() *rand.Rand { return rand.New(rand.NewPCG(1, 2)) }

func pick(m *rand.Rand, from ...string) string { return from[m.IntN(len(from))] }

func makeNumber(m *rand.Rand, near int) string {
	switch m.IntN(30) {
	case 0:
		return strconv.Itoa(m.IntN(20000))
	case 1:
		return "00" + strconv.Itoa(near)
	case 2:
		return strconv.Itoa(max(0, near+m.IntN(3)-1))
	}
	return strconv.Itoa(near)
}

func makeTask(m *rand.Rand, letter string) string {
	period, err := strconv.Atoi(pick(m, "1", "2", "4", "6", "6", "6", "12", "12", "60", "7", "61"))
	if err != nil {
		panic(err)
	}
	offset := 0
	if m.IntN(2) == 0 {
		offset = m.IntN(period)
	}
	cost := 1 + m.IntN(period-offset)
	within := cost + m.IntN(period-offset-cost+1)
	from := ""
	if offset > 0 || m.IntN(4) == 0 {
		from = " from " + makeNumber(m, offset)
	}
	return "task " + letter + " every " + makeNumber(m, period) + from +
		" takes " + makeNumber(m, cost) + " within " + makeNumber(m, within) + ";"
}

func makeSet(m *rand.Rand) string {
	var out strings.Builder
	gap := pick(m, "", " ", "\n")
	for i := range 1 + m.IntN(7) {
		letter := string(rune('a' + i))
		if m.IntN(20) == 0 {
			letter = "a"
		}
		out.WriteString(makeTask(m, letter) + gap)
	}
	for range max(0, m.IntN(12)-4) {
		out.WriteString(pick(m, "before ", "apart ") + pick(m, "a", "b", "a", "b", "c") + " " + pick(m, "b", "a", "c", "d") + ";" + gap)
	}
	return out.String()
}

// damage puts a byte, a token or nothing into the place of some bytes.
func damage(m *rand.Rand, text string) string {
	start := m.IntN(len(text) + 1)
	end := min(len(text), start+m.IntN(4))
	put := pick(m, "", " ", "\n", ";", ",", ":", "a", "5", "0", "task ", "from 1 ", " before a b;", "12345", "?", "\x00", "\xff", "é")
	return text[:start] + put + text[end:]
}

func makeBytes(m *rand.Rand) string {
	bytes := make([]byte, m.IntN(500))
	for i := range bytes {
		bytes[i] = byte(m.IntN(256))
	}
	return string(bytes)
}

// makeTexts makes right sets, sets that are wrong in one way or in several,
// and texts of any bytes.
func makeTexts(count int) []string {
	m := newMaker()
	var texts []string
	for i := range count {
		switch i % 8 {
		case 0:
			texts = append(texts, makeBytes(m))
		case 1, 2:
			texts = append(texts, damage(m, makeSet(m)))
		case 3:
			texts = append(texts, damage(m, damage(m, makeSet(m))))
		default:
			texts = append(texts, makeSet(m))
		}
	}
	return texts
}

// makeTables makes texts of tables, right and wrong ones, and packed tables,
// right ones and ones with some bytes changed.
func makeTables(t *testing.T, count int) []string {
	m := newMaker()
	var texts []string
	for range count {
		text := makeTable(m)
		packed := mustWrite(t, text)
		texts = append(texts, text, spoil(m, text), packed, spoil(m, packed))
	}
	return texts
}

func print3(text string) judged {
	out, errno, place := cyclic.Print(text)
	return judged{out, errno, place}
}

func TestPrintAgainstJudge(t *testing.T) {
	seen := map[cyclic.Errno]int{}
	for _, text := range makeTexts(16000) {
		got, want := print3(text), judgePrint(text)
		if got != want {
			t.Fatalf("P3, P4: Print(%q) = %v, want %v", text, got, want)
		}
		seen[got.errno]++
	}
	for errno := cyclic.OK; errno <= cyclic.ErrPair; errno++ {
		if seen[errno] < 100 {
			t.Errorf("only %d texts have the answer %d: the texts are too poor", seen[errno], errno)
		}
	}
}

func TestEachEndOfASet(t *testing.T) {
	whole := "task a every 06 from 1 takes 2 within 3;\ntask b every 6 takes 1 within 6; before a b; apart b a;"
	for end := range len(whole) + 1 {
		for _, behind := range []string{"", " ", ";", "0", "a", "\x00", "\x80"} {
			text := whole[:end] + behind
			if got, want := print3(text), judgePrint(text); got != want {
				t.Errorf("P3: Print(%q) = %v, want %v", text, got, want)
			}
		}
	}
}

func TestEachByte(t *testing.T) {
	for c := range 256 {
		for _, text := range []string{string([]byte{byte(c)}), "task a every 6 takes 1 within 6;" + string([]byte{byte(c)})} {
			if got, want := print3(text), judgePrint(text); got != want {
				t.Errorf("P3: Print(%q) = %v, want %v", text, got, want)
			}
		}
	}
}

func TestPrintedAgain(t *testing.T) {
	for _, text := range makeTexts(4000) {
		if got := print3(text); got.errno == cyclic.OK {
			if again := print3(got.text); again != got {
				t.Fatalf("P4: Print(%q) = %v, want %v", got.text, again, got)
			}
		}
	}
}

// callAll makes every call with the text, and answers what they answered.
func callAll(text string, ticks int, costs []int) []judged {
	answers := []judged{print3(text)}
	out, errno, place := cyclic.Compile(text)
	answers = append(answers, judged{out, errno, place})
	out, errno = cyclic.Write(text)
	answers = append(answers, judged{out, errno, 0})
	out, errno = cyclic.Read(text)
	answers = append(answers, judged{out, errno, 0})
	out, errno = cyclic.Run(text, ticks, costs)
	return append(answers, judged{out, errno, 0})
}

func TestErrorsNumbers(t *testing.T) {
	for i, errno := range []cyclic.Errno{
		cyclic.OK, cyclic.ErrLong, cyclic.ErrForm, cyclic.ErrName, cyclic.ErrTime,
		cyclic.ErrPair, cyclic.ErrLoad, cyclic.ErrOrder, cyclic.ErrTable, cyclic.ErrTicks,
	} {
		if int(errno) != i {
			t.Errorf("the error number %d is %d", i, errno)
		}
	}
}

func TestNoCallPanics(t *testing.T) {
	numbers := []int{math.MinInt, -1, 0, 1, 400, 401, math.MaxInt}
	lists := [][]int{nil, {}, {0}, {-1, 3}, {401}, make([]int, 40), make([]int, 41), numbers}
	texts := append(makeTexts(2000), "", strings.Repeat("task", 1<<18), strings.Repeat("\xff", 801))
	texts = append(texts, makeTables(t, 500)...)
	for i, text := range texts {
		for _, answer := range callAll(text, numbers[i%len(numbers)], lists[i%len(lists)]) {
			if answer.errno != cyclic.OK && answer.text != "" {
				t.Fatalf("P1: with the error %d: %q, of %q", answer.errno, answer.text, text)
			}
		}
	}
}

func TestNothingIsKept(t *testing.T) {
	texts := append(makeTexts(400), makeTables(t, 100)...)
	first := make([][]judged, len(texts))
	// Few of them are out of their bounds.
	numberOf := func(i int) int { return i % 405 }
	for i, text := range texts {
		first[i] = callAll(text, numberOf(i), []int{numberOf(i), 1})
	}
	var all sync.WaitGroup
	for worker := range 4 {
		all.Go(func() {
			for j := range texts {
				i := (len(texts) - j + worker*100) % len(texts)
				if again := callAll(texts[i], numberOf(i), []int{numberOf(i), 1}); !slices.Equal(again, first[i]) {
					t.Errorf("P2: of %q: first %v, then %v", texts[i], first[i], again)
				}
			}
		})
	}
	all.Wait()
}
