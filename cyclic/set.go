package cyclic

const (
	wordBefore = "before"
	wordApart  = "apart"
)

// name and number keep their places: the checks that come behind the grammar
// tell them.
type name struct {
	letter string
	place  int
}

type number struct {
	value int
	place int
}

type task struct {
	name   name
	period number
	offset number
	cost   number
	within number
}

type pair struct {
	word   string // wordBefore or wordApart
	first  name
	second name
}

type taskSet struct {
	tasks []task
	pairs []pair
}

// readSet refuses what is no task set, or one that is wrong (P3).
func readSet(text string) taskSet {
	if len(text) > maxText {
		refuse(ErrLong, 0)
	}
	set := parseSet(text)
	set.check()
	return set
}

func parseSet(text string) taskSet {
	r := newReader(text, ErrForm)
	set := taskSet{tasks: []task{r.takeTask()}}
	// Behind the last task or pair that may stand there the next one's first
	// word is left where it is, and refused as any other token.
	for r.sees("task") && len(set.tasks) < maxTasks {
		set.tasks = append(set.tasks, r.takeTask())
	}
	for r.seesPair() && len(set.pairs) < maxPairs {
		set.pairs = append(set.pairs, r.takePair())
	}
	r.takeEnd()
	return set
}

func (r *reader) takeTask() task {
	var t task
	r.takeText("task")
	t.name = r.takeName()
	r.takeText("every")
	t.period = r.takeNumber()
	if r.sees("from") {
		r.take()
		t.offset = r.takeNumber()
	}
	r.takeText("takes")
	t.cost = r.takeNumber()
	r.takeText("within")
	t.within = r.takeNumber()
	r.takeText(";")
	return t
}

func (r *reader) seesPair() bool {
	return r.sees(wordBefore) || r.sees(wordApart)
}

func (r *reader) takePair() pair {
	var p pair
	p.word = r.take().text
	p.first = r.takeName()
	p.second = r.takeName()
	r.takeText(";")
	return p
}
