package cyclic_test

import (
	"slices"
	"strconv"
	"strings"
)

// This judge holds a table against a task set by the document's words; tells
// which frame is the greatest by counting what must lie within which frames,
// not by making a plan; and goes unit by unit with nothing but lists.

type judgedPlan struct {
	cycle int
	jobs  []plannedJob // in the tasks' order
	pairs [][]string   // the word and the two names
}

type plannedJob struct {
	name     string
	number   int
	release  int
	deadline int
	cost     int
}

// judgePlan takes a right task set. It trusts Print to write it out: that is
// tested elsewhere.
func judgePlan(set string) judgedPlan {
	var plan judgedPlan
	var tasks [][]int
	var names []string
	for _, line := range strings.Split(print3(set).text, ";\n") {
		words := strings.Fields(line)
		switch {
		case len(words) == 3:
			plan.pairs = append(plan.pairs, words)
		case len(words) == 8:
			words = slices.Insert(words, 4, "from", "0")
			fallthrough
		case len(words) == 10:
			names = append(names, words[1])
			tasks = append(tasks, []int{numeral(words[3]), numeral(words[5]), numeral(words[7]), numeral(words[9])})
		}
	}
	isCycle := func(cycle int) bool {
		return !slices.ContainsFunc(tasks, func(task []int) bool { return cycle%task[0] != 0 })
	}
	for plan.cycle = 1; !isCycle(plan.cycle); plan.cycle++ {
	}
	for i, task := range tasks {
		for k := 0; k*task[0] < plan.cycle; k++ {
			release := k*task[0] + task[1]
			plan.jobs = append(plan.jobs, plannedJob{names[i], k, release, release + task[3], task[2]})
		}
	}
	return plan
}

// fits tells whether a table with the frame keeps the set, its pairs left out:
// just if no frames in a row are asked for more than they have.
func (plan judgedPlan) fits(frame int) bool {
	for from := 0; from < plan.cycle; from += frame {
		for to := from; to <= plan.cycle; to += frame {
			asked := 0
			for _, j := range plan.jobs {
				// The whole frames of the job's window.
				first := (j.release + frame - 1) / frame * frame
				last := j.deadline / frame * frame
				if first >= last {
					return false
				}
				if from <= first && last <= to {
					asked += j.cost
				}
			}
			if asked > to-from {
				return false
			}
		}
	}
	return true
}

// widest answers 0 if nothing fits.
func (plan judgedPlan) widest() int {
	for frame := plan.cycle; frame > 0; frame-- {
		if plan.cycle%frame == 0 && plan.fits(frame) {
			return frame
		}
	}
	return 0
}

// goesByUnits is P9, word by word.
func (plan judgedPlan) goesByUnits() bool {
	given := make([]int, len(plan.jobs))
	for now := range plan.cycle {
		chosen := -1
		for i, j := range plan.jobs {
			if j.release > now || given[i] == j.cost || !plan.mayRun(i, given) {
				continue
			}
			if chosen < 0 || j.deadline < plan.jobs[chosen].deadline {
				chosen = i
			}
		}
		if chosen < 0 {
			continue
		}
		given[chosen]++
		if now >= plan.jobs[chosen].deadline {
			return false
		}
	}
	for i, j := range plan.jobs {
		if given[i] < j.cost {
			return false
		}
	}
	return true
}

func (plan judgedPlan) mayRun(i int, given []int) bool {
	j := plan.jobs[i]
	for other, o := range plan.jobs {
		begun, done := given[other] > 0, given[other] == o.cost
		asks := plan.hasPair("before", o.name, j.name) && o.number == j.number
		named := plan.hasPair("apart", o.name, j.name) || plan.hasPair("apart", j.name, o.name)
		if asks && !done || named && begun && !done {
			return false
		}
	}
	return true
}

func (plan judgedPlan) hasPair(word, first, second string) bool {
	return slices.ContainsFunc(plan.pairs, func(pair []string) bool {
		return slices.Equal(pair, []string{word, first, second})
	})
}

// notKept tells in which way a table's text does not keep the set; nothing, if
// it does.
func (plan judgedPlan) notKept(text string) string {
	if !judgeTable(text) {
		return "no table"
	}
	parts := tableTexts.FindStringSubmatch(text)
	if numeral(parts[1]) != plan.cycle {
		return "another cycle"
	}
	frame := numeral(parts[2])
	units := map[string][]int{} // of each job its units, as they come
	next := 0
	for i, line := range strings.Split(parts[3], "\n") {
		for _, slice := range sliceTexts.FindAllStringSubmatch(line, -1) {
			found := slices.IndexFunc(plan.jobs, func(j plannedJob) bool { return j.key() == slice[1]+slice[2] })
			if found < 0 {
				return "a slice of no job: " + slice[0]
			}
			if j := plan.jobs[found]; i*frame < j.release || (i+1)*frame > j.deadline {
				return "out of its window: " + slice[0] + " in frame " + strconv.Itoa(i)
			}
			for range numeral(slice[3]) {
				units[slice[1]+slice[2]] = append(units[slice[1]+slice[2]], next)
				next++
			}
		}
	}
	return plan.unitsWrong(units)
}

func (j plannedJob) key() string { return j.name + strconv.Itoa(j.number) }

func (plan judgedPlan) unitsWrong(units map[string][]int) string {
	for _, j := range plan.jobs {
		if len(units[j.key()]) != j.cost {
			return "not its cost: " + j.key()
		}
	}
	for _, a := range plan.jobs {
		for _, b := range plan.jobs {
			ofA, ofB := units[a.key()], units[b.key()]
			if plan.hasPair("before", a.name, b.name) && a.number == b.number && slices.Max(ofA) > slices.Min(ofB) {
				return "not before: " + a.key() + " and " + b.key()
			}
			if plan.hasPair("apart", a.name, b.name) && (liesWithin(ofA, ofB) || liesWithin(ofB, ofA)) {
				return "not apart: " + a.key() + " and " + b.key()
			}
		}
	}
	return ""
}

func liesWithin(ones, others []int) bool {
	return slices.ContainsFunc(ones, func(one int) bool {
		return slices.Min(others) < one && one < slices.Max(others)
	})
}
