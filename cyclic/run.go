package cyclic

import "strings"

// checkTicks refuses what a table cannot be run with (P10).
func checkTicks(ticks int, costs []int) {
	if !isTicks(ticks) || len(costs) > maxCosts {
		refuse(ErrTicks, 0)
	}
	for _, cost := range costs {
		if !isTicks(cost) {
			refuse(ErrTicks, 0)
		}
	}
}

func isTicks(n int) bool { return n >= 0 && n <= maxTicks }

// jobRun is a job of the table on its way through its slices. It stands for
// the jobs of all cycles: behind its last unit it is as it was ahead of its
// first one.
type jobRun struct {
	letter byte
	budget int // of all its slices together
	left   int // of its budget, from its first unit on; else 0
	wants  int
}

// jobKey tells the jobs of one cycle apart.
type jobKey struct {
	letter byte
	job    int
}

// units tells for each unit of the cycle whose it is: nil is nobody.
func (t table) units() []*jobRun {
	units := make([]*jobRun, t.cycle)
	jobs := map[jobKey]*jobRun{}
	for frame, slices := range t.frames {
		at := frame * t.frame
		for _, s := range slices {
			key := jobKey{s.letter, s.job}
			if jobs[key] == nil {
				jobs[key] = &jobRun{letter: s.letter}
			}
			jobs[key].budget += s.budget
			for range s.budget {
				units[at] = jobs[key]
				at++
			}
		}
	}
	return units
}

// run is what goes on from tick to tick.
type run struct {
	costs []int
	begun int // jobs, in all cycles so far
	trace strings.Builder
}

// run writes the trace of so many ticks (P10).
func (t table) run(ticks int, costs []int) string {
	r := run{costs: costs}
	units := t.units()
	for tick := range ticks {
		r.tick(units[tick%t.cycle])
	}
	return r.trace.String()
}

// tick falls through where a job begins: the unit is then run as any other.
func (r *run) tick(j *jobRun) {
	switch {
	case j == nil:
		r.trace.WriteByte('.')
	case j.left == 0:
		r.begin(j)
		fallthrough
	default:
		r.give(j)
	}
}

// begin numbers the jobs as they come, so that those of the next cycle go on
// (P11); and what the one before it wanted is forgotten (P12).
func (r *run) begin(j *jobRun) {
	j.left = j.budget
	j.wants = j.budget
	if len(r.costs) > 0 {
		j.wants = r.costs[r.begun%len(r.costs)]
	}
	r.begun++
}

func (r *run) give(j *jobRun) {
	j.left--
	if j.wants == 0 {
		r.trace.WriteByte('.')
		return
	}
	j.wants--
	r.trace.WriteByte(j.letter)
	if j.left == 0 && j.wants > 0 {
		r.trace.WriteByte('!')
		r.trace.WriteByte(j.letter)
	}
}
