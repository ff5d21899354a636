package cyclic_test

import (
	"strings"
)

// judgeRun tells what the trace of a table must be, in another way than Run
// does: from the table's text, job by job, each with the list of its ticks. The
// first of them are those that the job gets.

type judgedJob struct {
	name  string
	ticks []int
}

// judgeJobsOf lists the jobs of a cycle by their first slices, with their ticks
// in the first cycle.
func judgeJobsOf(text string) (cycle int, jobs []judgedJob) {
	parts := tableTexts.FindStringSubmatch(text)
	cycle, frame := numeral(parts[1]), numeral(parts[2])
	where := map[string]int{}
	for i, line := range strings.Split(parts[3], "\n") {
		from := i * frame
		for _, slice := range sliceTexts.FindAllStringSubmatch(line, -1) {
			name := slice[1] + slice[2]
			if _, known := where[name]; !known {
				where[name] = len(jobs)
				jobs = append(jobs, judgedJob{name: slice[1]})
			}
			to := from + numeral(slice[3])
			for ; from < to; from++ {
				jobs[where[name]].ticks = append(jobs[where[name]].ticks, from)
			}
		}
	}
	return cycle, jobs
}

func judgeRun(text string, ticks int, costs []int) string {
	cycle, jobs := judgeJobsOf(text)
	trace := strings.Split(strings.Repeat(".", ticks+cycle), "")
	for first := 0; first < ticks; first += cycle {
		for i, job := range jobs {
			wants := len(job.ticks)
			if len(costs) > 0 {
				wants = costs[(first/cycle*len(jobs)+i)%len(costs)]
			}
			gets := min(wants, len(job.ticks))
			for _, tick := range job.ticks[:gets] {
				trace[first+tick] = job.name
			}
			if wants > gets {
				trace[first+job.ticks[gets-1]] += "!" + job.name
			}
		}
	}
	return strings.Join(trace[:ticks], "")
}
