package cyclic

import "container/heap"

// compile refuses a set that no plan was found for (P8, P9).
func (s taskSet) compile() table {
	t, goes := s.planWidest()
	if !goes {
		refuse(s.whyNone(), 0)
	}
	return t
}

// planWidest goes from the greatest frame down. Without pairs the least
// deadline first goes wherever anything goes, so that no greater frame is left
// out; with pairs the frame of 1, which comes last, is unit by unit (P9).
func (s taskSet) planWidest() (t table, goes bool) {
	cycle := s.cycle()
	for frame := cycle; frame >= 1 && !goes; frame-- {
		if cycle%frame == 0 {
			t, goes = s.plan(frame)
		}
	}
	return t, goes
}

// whyNone asks the frame of 1 alone: the units of any table, one behind the
// other, are frames of 1 that keep what the table keeps.
func (s taskSet) whyNone() Errno {
	if _, goes := (taskSet{tasks: s.tasks}).plan(1); goes {
		return ErrOrder
	}
	return ErrLoad
}

// plan is a table on its way, frame by frame.
type plan struct {
	pairs  []pair
	jobs   map[string][]*job // by their letters and numbers
	coming []*job            // by their releases
	ready  jobHeap           // released and not done
}

func (s taskSet) newPlan() *plan {
	p := &plan{pairs: s.pairs, jobs: map[string][]*job{}}
	for place, t := range s.tasks {
		jobs := t.jobsIn(s.cycle(), place)
		p.jobs[t.name.letter] = jobs
		p.coming = append(p.coming, jobs...)
	}
	sortByRelease(p.coming)
	return p
}

func (s taskSet) plan(frame int) (t table, goes bool) {
	p := s.newPlan()
	t = table{cycle: s.cycle(), frame: frame}
	for start := 0; start < t.cycle; start += frame {
		p.release(start)
		t.frames = append(t.frames, p.fill(start, start+frame))
	}
	return t, p.allDone()
}

func (p *plan) release(now int) {
	for len(p.coming) > 0 && p.coming[0].release <= now {
		heap.Push(&p.ready, p.coming[0])
		p.coming = p.coming[1:]
	}
}

// fill gives each job as much as it can take at once: within a frame no job is
// released, and nothing but a job's end lets another one run. So none comes
// twice.
func (p *plan) fill(start, end int) []slice {
	var slices []slice
	for start < end {
		j := p.takeNext(end)
		if j == nil {
			break
		}
		budget := min(j.left, end-start)
		slices = append(slices, slice{j.letter[0], j.number, budget})
		start += budget
		j.left -= budget
		if !j.isDone() {
			heap.Push(&p.ready, j)
		}
	}
	return slices
}

// takeNext takes the job with the least deadline of those that may run in a
// frame with this end; nil, if there is none.
func (p *plan) takeNext(end int) *job {
	var next *job
	var waiting []*job
	for next == nil && p.ready.Len() > 0 {
		j := heap.Pop(&p.ready).(*job)
		if p.mayRun(j, end) {
			next = j
		} else {
			waiting = append(waiting, j)
		}
	}
	for _, j := range waiting {
		heap.Push(&p.ready, j)
	}
	return next
}

// mayRun lets no job run behind its deadline: what is late then is never done,
// and the plan does not go.
func (p *plan) mayRun(j *job, end int) bool {
	if j.deadline < end {
		return false
	}
	for _, rule := range p.pairs {
		if p.holdsUp(rule, j) {
			return false
		}
	}
	return true
}

func (p *plan) holdsUp(rule pair, j *job) bool {
	first, second := rule.first.letter, rule.second.letter
	switch {
	case rule.word == wordBefore:
		return j.letter == second && !p.jobs[first][j.number].isDone()
	case j.letter == first:
		return p.isUnderWay(second)
	case j.letter == second:
		return p.isUnderWay(first)
	}
	return false
}

func (p *plan) isUnderWay(letter string) bool {
	for _, j := range p.jobs[letter] {
		if j.isUnderWay() {
			return true
		}
	}
	return false
}

// allDone needs to ask no job: each is coming, ready or done.
func (p *plan) allDone() bool {
	return len(p.coming) == 0 && len(p.ready) == 0
}
