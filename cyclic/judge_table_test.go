package cyclic_test

import (
	"regexp"
	"strconv"
	"strings"
)

// judgeTable tells whether a text is a table's, in another way than Write does:
// by one pattern of the whole text, and lists of what each name's slices are.

const (
	numeralForm = `(0|[1-9][0-9]{0,3})`
	sliceForm   = `([a-z])` + numeralForm + `:` + numeralForm
	frameForm   = `(?:` + sliceForm + `(?:,` + sliceForm + `)*)?;\n`
)

var (
	tableTexts = regexp.MustCompile(`\Acycle ` + numeralForm + ` frame ` + numeralForm + `;\n((?:` + frameForm + `)*)\z`)
	sliceTexts = regexp.MustCompile(sliceForm)
)

func judgeTable(text string) bool {
	parts := tableTexts.FindStringSubmatch(text)
	if len(text) > 800 || parts == nil {
		return false
	}
	cycle, frame := numeral(parts[1]), numeral(parts[2])
	lines := strings.SplitAfter(parts[3], "\n")
	lines = lines[:len(lines)-1]
	if cycle < 1 || cycle > 60 || frame < 1 || cycle%frame != 0 || len(lines) != cycle/frame {
		return false
	}
	jobs := map[string][]int{}
	for _, line := range lines {
		if !judgeFrame(line, frame, jobs) {
			return false
		}
	}
	return judgeJobs(jobs)
}

func judgeFrame(line string, frame int, jobs map[string][]int) bool {
	together, here := 0, map[string]bool{}
	for _, slice := range sliceTexts.FindAllStringSubmatch(line, -1) {
		job := slice[1] + slice[2]
		budget := numeral(slice[3])
		if here[job] || budget == 0 {
			return false
		}
		here[job] = true
		together += budget
		jobs[slice[1]] = append(jobs[slice[1]], numeral(slice[2]))
	}
	return together <= frame
}

func judgeJobs(jobs map[string][]int) bool {
	for _, numbers := range jobs {
		for i, job := range numbers {
			if i == 0 && job != 0 {
				return false
			}
			if i > 0 && job != numbers[i-1] && job != numbers[i-1]+1 {
				return false
			}
		}
	}
	return true
}

func numeral(digits string) int {
	n, err := strconv.Atoi(digits)
	if err != nil {
		panic(err)
	}
	return n
}
