package cyclic

const (
	maxText   = 400 // bytes of a task set
	maxTable  = 800 // bytes of a table's text
	maxTasks  = 6
	maxPairs  = 6
	maxTime   = 60  // of a period, and of a cycle
	maxDigits = 4   // of a number
	maxTicks  = 400 // of a run, and of what a job wants
	maxCosts  = 40
)
