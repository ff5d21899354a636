package cyclic

// A packed table is its body and the body's sum. The body has a byte for the
// cycle, one for the frame's length, and for each frame one for how many
// slices it has, and then three for each slice: its letter, job and budget.
// No number of a table needs more than a byte, and no two tables share a body.

const (
	sliceBytes = 3
	// At the most each unit of the cycle is a frame with a slice of its own.
	maxPacked = 2 + maxTime*(1+sliceBytes) + sumBytes
)

func (t table) pack() string {
	body := []byte{byte(t.cycle), byte(t.frame)}
	for _, slices := range t.frames {
		body = append(body, byte(len(slices)))
		for _, s := range slices {
			body = append(body, s.letter, byte(s.job), byte(s.budget))
		}
	}
	return string(body) + sumOf(string(body))
}

// unpack refuses what pack does not answer for any table (P7).
func unpack(packed string) table {
	if len(packed) > maxPacked || len(packed) < sumBytes {
		refuse(ErrTable, 0)
	}
	body := packed[:len(packed)-sumBytes]
	if packed != body+sumOf(body) {
		refuse(ErrTable, 0)
	}
	t := parseBody(body)
	t.check()
	return t
}

func parseBody(body string) table {
	r := &byteReader{rest: body}
	var t table
	t.cycle = r.takeNumber()
	t.frame = r.takeNumber()
	for r.rest != "" {
		t.frames = append(t.frames, r.takeFrame())
	}
	return t
}

type byteReader struct {
	rest string
}

func (r *byteReader) take() byte {
	if r.rest == "" {
		refuse(ErrTable, 0)
	}
	taken := r.rest[0]
	r.rest = r.rest[1:]
	return taken
}

func (r *byteReader) takeNumber() int {
	return int(r.take())
}

func (r *byteReader) takeFrame() []slice {
	var slices []slice
	for range r.takeNumber() {
		slices = append(slices, r.takeSlice())
	}
	return slices
}

func (r *byteReader) takeSlice() slice {
	var s slice
	s.letter = r.take()
	s.job = r.takeNumber()
	s.budget = r.takeNumber()
	return s
}
