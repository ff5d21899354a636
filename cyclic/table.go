package cyclic

import (
	"strconv"
	"strings"
)

type table struct {
	cycle  int
	frame  int // the length of each frame
	frames [][]slice
}

type slice struct {
	letter byte
	job    int
	budget int
}

// readTable refuses what is not the text of a table (P5).
func readTable(text string) table {
	if len(text) > maxTable {
		refuse(ErrTable, 0)
	}
	t := parseTable(text)
	t.check()
	// The tokens leave free what the text of a table does not: blanks,
	// newlines and needless zeros.
	if t.text() != text {
		refuse(ErrTable, 0)
	}
	return t
}

func parseTable(text string) table {
	r := newReader(text, ErrTable)
	var t table
	r.takeText("cycle")
	t.cycle = r.takeNumber().value
	r.takeText("frame")
	t.frame = r.takeNumber().value
	r.takeText(";")
	for !r.seesEnd() {
		t.frames = append(t.frames, r.takeFrame())
	}
	return t
}

func (r *reader) takeFrame() []slice {
	if r.sees(";") {
		r.take()
		return nil
	}
	slices := []slice{r.takeSlice()}
	for r.sees(",") {
		r.take()
		slices = append(slices, r.takeSlice())
	}
	r.takeText(";")
	return slices
}

func (r *reader) takeSlice() slice {
	var s slice
	s.letter = r.takeName().letter[0]
	s.job = r.takeNumber().value
	r.takeText(":")
	s.budget = r.takeNumber().value
	return s
}

// text is the one text that a table has.
func (t table) text() string {
	var out strings.Builder
	out.WriteString("cycle " + strconv.Itoa(t.cycle) + " frame " + strconv.Itoa(t.frame) + ";\n")
	for _, slices := range t.frames {
		out.WriteString(frameText(slices) + ";\n")
	}
	return out.String()
}

func frameText(slices []slice) string {
	var texts []string
	for _, s := range slices {
		texts = append(texts, s.text())
	}
	return strings.Join(texts, ",")
}

func (s slice) text() string {
	return string([]byte{s.letter}) + strconv.Itoa(s.job) + ":" + strconv.Itoa(s.budget)
}
