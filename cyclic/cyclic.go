// Package cyclic plans periodic tasks into a table, and runs it: see DOC.md.
package cyclic

// Errno is what a call answers: OK or the reason for a refusal.
type Errno int

const (
	OK       Errno = 0
	ErrLong  Errno = 1 // a text above its bound
	ErrForm  Errno = 2 // no task set
	ErrName  Errno = 3 // a name that stands twice, or is no task's
	ErrTime  Errno = 4 // a time out of its bounds
	ErrPair  Errno = 5 // a pair that cannot be
	ErrLoad  Errno = 6 // too much to do
	ErrOrder Errno = 7 // no table was found that keeps the pairs
	ErrTable Errno = 8 // no table
	ErrTicks Errno = 9 // ticks or costs out of their bounds
)

// Print writes a task set in one way (P3, P4).
func Print(set string) (string, Errno, int) {
	return guard(ErrForm, func() string { return readSet(set).text() })
}

// Write packs the text of a table (P5, P6).
func Write(text string) (string, Errno) {
	packed, errno, _ := guard(ErrTable, func() string { return readTable(text).pack() })
	return packed, errno
}

// Read unpacks a table into its text (P6, P7).
func Read(table string) (string, Errno) {
	text, errno, _ := guard(ErrTable, func() string { return unpack(table).text() })
	return text, errno
}

// Compile plans a task set (P8, P9).
func Compile(set string) (string, Errno, int) {
	return guard(ErrForm, func() string { return readSet(set).compile().pack() })
}

// Run runs a table (P10 to P12).
func Run(table string, ticks int, costs []int) (string, Errno) {
	trace, errno, _ := guard(ErrTable, func() string {
		t := unpack(table)
		checkTicks(ticks, costs)
		return t.run(ticks, costs)
	})
	return trace, errno
}
