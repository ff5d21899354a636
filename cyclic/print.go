package cyclic

import (
	"strconv"
	"strings"
)

// text is the one way in which a task set is written (P4).
func (s taskSet) text() string {
	var out strings.Builder
	for _, t := range s.tasks {
		out.WriteString(line(t.tokens()))
	}
	for _, p := range s.pairs {
		out.WriteString(line(p.tokens()))
	}
	return out.String()
}

func line(tokens []string) string {
	return strings.Join(tokens, " ") + ";\n"
}

func (t task) tokens() []string {
	tokens := []string{"task", t.name.letter, "every", t.period.digits()}
	if t.offset.value != 0 {
		tokens = append(tokens, "from", t.offset.digits())
	}
	return append(tokens, "takes", t.cost.digits(), "within", t.within.digits())
}

func (p pair) tokens() []string {
	return []string{p.word, p.first.letter, p.second.letter}
}

func (n number) digits() string {
	return strconv.Itoa(n.value)
}
