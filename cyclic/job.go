package cyclic

import (
	"cmp"
	"slices"
)

// job is a job of the cycle on its way through a plan.
type job struct {
	letter   string
	number   int
	task     int // where its task stands in the set
	release  int
	deadline int
	cost     int
	left     int // of its cost
}

func (j *job) isDone() bool { return j.left == 0 }

func (j *job) isUnderWay() bool { return j.left > 0 && j.left < j.cost }

// jobsIn lists the jobs that a task has in a cycle, by their numbers. None
// of them reaches beyond its period, and so none beyond the cycle.
func (t task) jobsIn(cycle, place int) []*job {
	var jobs []*job
	for number := range cycle / t.period.value {
		release := number*t.period.value + t.offset.value
		jobs = append(jobs, &job{
			letter:   t.name.letter,
			number:   number,
			task:     place,
			release:  release,
			deadline: release + t.within.value,
			cost:     t.cost.value,
			left:     t.cost.value,
		})
	}
	return jobs
}

func sortByRelease(jobs []*job) {
	slices.SortStableFunc(jobs, func(a, b *job) int { return cmp.Compare(a.release, b.release) })
}

// jobHeap is a heap (container/heap) with the least deadline on top; of the
// same, that of the first task. No two jobs of one task share a deadline: so
// there is one order, and what is popped never hangs on how it was pushed.
type jobHeap []*job

func (h jobHeap) Len() int { return len(h) }

func (h jobHeap) Less(a, b int) bool {
	if h[a].deadline != h[b].deadline {
		return h[a].deadline < h[b].deadline
	}
	return h[a].task < h[b].task
}

func (h jobHeap) Swap(a, b int) { h[a], h[b] = h[b], h[a] }

func (h *jobHeap) Push(pushed any) { *h = append(*h, pushed.(*job)) }

func (h *jobHeap) Pop() any {
	last := len(*h) - 1
	popped := (*h)[last]
	*h = (*h)[:last]
	return popped
}
