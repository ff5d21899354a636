package cyclic_test

import (
	"regexp"
	"strconv"
	"strings"

	"cyclic/cyclic"
)

// The judge answers what Print must answer, in another way than Print does: it
// cuts the whole text first, asks patterns of the tokens' kinds, and gathers
// every error ahead of choosing one.

type judged struct {
	text  string
	errno cyclic.Errno
	place int
}

// String is for what a failed test tells: packed tables are no text.
func (j judged) String() string {
	return strconv.Quote(j.text) + ", " + strconv.Itoa(int(j.errno)) + ", " + strconv.Itoa(j.place)
}

type piece struct {
	kind  byte // a letter of the patterns below; ? is no token
	text  string
	place int
}

var (
	pieces  = regexp.MustCompile(`(?s)[ \n]+|[a-z]+|[0-9]+|.`)
	wholes  = regexp.MustCompile(`^(TNE#(F#)?K#W#;){1,6}([BA]NN;){0,6}$`)
	tails   = []string{"TNE#F#K#W#;", "BNN;"}
	letters = map[string]byte{
		"task": 'T', "every": 'E', "from": 'F', "takes": 'K', "within": 'W', "before": 'B', "apart": 'A',
		";": ';', ",": ',', ":": ':',
	}
)

func cut(text string) []piece {
	// A regexp takes a wrong byte and a rune of several bytes as one piece
	// each; that is all the same here, as both are no token.
	var found []piece
	for _, at := range pieces.FindAllStringIndex(text, -1) {
		if p := text[at[0]:at[1]]; strings.Trim(p, " \n") != "" {
			found = append(found, piece{kindOf(p), p, at[0]})
		}
	}
	return found
}

func kindOf(p string) byte {
	if letter, known := letters[p]; known {
		return letter
	}
	switch c := p[0]; {
	case c >= 'a' && c <= 'z' && len(p) == 1:
		return 'N'
	case c >= 'a' && c <= 'z':
		return 'X'
	case c >= '0' && c <= '9' && len(p) <= 4:
		return '#'
	}
	return '?'
}

// mayGoOn tells whether some tokens behind these make a set of them: it is
// enough to try what can be left of one task or of one pair.
func mayGoOn(kinds string) bool {
	for _, tail := range tails {
		for i := range len(tail) + 1 {
			if wholes.MatchString(kinds + tail[i:]) {
				return true
			}
		}
	}
	return false
}

func judgeForm(text string, found []piece) (place int, wrong bool) {
	kinds := ""
	for _, p := range found {
		kinds += string(rune(p.kind))
		if !mayGoOn(kinds) {
			return p.place, true
		}
	}
	return len(text), !wholes.MatchString(kinds)
}

// readTask puts a task's tokens at fixed spots: the name at 1, the numbers at
// 3, 5, 7 and 9.
func readTask(line []piece) []piece {
	if line[4].kind == 'F' {
		return line
	}
	zero := piece{'#', "0", -1}
	return append(append(append([]piece{}, line[:4]...), piece{'F', "from", -1}, zero), line[4:]...)
}

func value(p piece) int {
	n, _ := strconv.Atoi(p.text)
	return n
}

type judge struct {
	names   []string
	periods []int
	errors  []judged
	lines   []string
}

func (j *judge) wrong(errno cyclic.Errno, place int) {
	j.errors = append(j.errors, judged{"", errno, place})
}

func (j *judge) find(name string) int {
	for i, n := range j.names {
		if n == name {
			return i
		}
	}
	return -1
}

func (j *judge) task(line []piece) {
	t := readTask(line)
	if j.find(t[1].text) >= 0 {
		j.wrong(cyclic.ErrName, t[1].place)
	}
	p, o, c, d := value(t[3]), value(t[5]), value(t[7]), value(t[9])
	switch {
	case p == 0 || p > 60:
		j.wrong(cyclic.ErrTime, t[3].place)
	case o >= p:
		j.wrong(cyclic.ErrTime, t[5].place)
	case c == 0 || c > p-o:
		j.wrong(cyclic.ErrTime, t[7].place)
	case d < c || d > p-o:
		j.wrong(cyclic.ErrTime, t[9].place)
	}
	j.names, j.periods = append(j.names, t[1].text), append(j.periods, p)
	out := "task " + t[1].text + " every " + strconv.Itoa(p)
	if o > 0 {
		out += " from " + strconv.Itoa(o)
	}
	j.lines = append(j.lines, out+" takes "+strconv.Itoa(c)+" within "+strconv.Itoa(d)+";\n")
}

func (j *judge) pair(line []piece) {
	first, second := j.find(line[1].text), j.find(line[2].text)
	if first < 0 {
		j.wrong(cyclic.ErrName, line[1].place)
	}
	if second < 0 {
		j.wrong(cyclic.ErrName, line[2].place)
	}
	if first >= 0 && second >= 0 {
		if first == second || line[0].kind == 'B' && j.periods[first] != j.periods[second] {
			j.wrong(cyclic.ErrPair, line[2].place)
		}
	}
	j.lines = append(j.lines, line[0].text+" "+line[1].text+" "+line[2].text+";\n")
}

func (j *judge) shortCycle() bool {
	for cycle := 1; cycle <= 60; cycle++ {
		fits := true
		for _, p := range j.periods {
			fits = fits && cycle%p == 0
		}
		if fits {
			return true
		}
	}
	return false
}

func (j *judge) answer() judged {
	if len(j.errors) > 0 {
		least := j.errors[0]
		for _, e := range j.errors {
			if e.place < least.place {
				least = e
			}
		}
		return least
	}
	if !j.shortCycle() {
		return judged{"", cyclic.ErrTime, 0}
	}
	return judged{strings.Join(j.lines, ""), cyclic.OK, 0}
}

func judgePrint(text string) judged {
	if len(text) > 400 {
		return judged{"", cyclic.ErrLong, 0}
	}
	found := cut(text)
	if place, wrong := judgeForm(text, found); wrong {
		return judged{"", cyclic.ErrForm, place}
	}
	var j judge
	for start, i := 0, 0; i < len(found); i++ {
		if found[i].kind != ';' {
			continue
		}
		if line := found[start : i+1]; line[0].kind == 'T' {
			j.task(line)
		} else {
			j.pair(line)
		}
		start = i + 1
	}
	return j.answer()
}
