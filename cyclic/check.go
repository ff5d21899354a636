package cyclic

// check goes through the set in the text's order: so the first thing that is
// wrong is the one with the least place.
func (s taskSet) check() {
	for i, t := range s.tasks {
		if findTask(s.tasks[:i], t.name) >= 0 {
			refuse(ErrName, t.name.place)
		}
		t.checkTimes()
	}
	for _, p := range s.pairs {
		s.checkPair(p)
	}
	if s.cycle() > maxTime {
		refuse(ErrTime, 0)
	}
}

// checkTimes never asks an offset that is not written: behind a right period
// its 0 is right.
func (t task) checkTimes() {
	period := t.period.value
	rest := period - t.offset.value
	t.period.mustLie(1, maxTime)
	t.offset.mustLie(0, period-1)
	t.cost.mustLie(1, rest)
	t.within.mustLie(t.cost.value, rest)
}

func (n number) mustLie(least, most int) {
	if n.value < least || n.value > most {
		refuse(ErrTime, n.place)
	}
}

func (s taskSet) checkPair(p pair) {
	first := s.mustFind(p.first)
	second := s.mustFind(p.second)
	if first == second {
		refuse(ErrPair, p.second.place)
	}
	samePeriod := s.tasks[first].period.value == s.tasks[second].period.value
	if p.word == wordBefore && !samePeriod {
		refuse(ErrPair, p.second.place)
	}
}

func (s taskSet) mustFind(n name) int {
	found := findTask(s.tasks, n)
	if found < 0 {
		refuse(ErrName, n.place)
	}
	return found
}

// findTask answers -1 if no task has the name.
func findTask(tasks []task, n name) int {
	for i, t := range tasks {
		if t.name.letter == n.letter {
			return i
		}
	}
	return -1
}

// cycle stops where it is above maxTime: it only grows, and nobody asks by
// how much it is above.
func (s taskSet) cycle() int {
	cycle := 1
	for _, t := range s.tasks {
		cycle = leastCommonMultiple(cycle, t.period.value)
		if cycle > maxTime {
			break
		}
	}
	return cycle
}

func leastCommonMultiple(a, b int) int {
	return a / greatestCommonDivisor(a, b) * b
}

func greatestCommonDivisor(a, b int) int {
	for b != 0 {
		a, b = b, a%b
	}
	return a
}
