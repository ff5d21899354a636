package cyclic

// check refuses what has the form of a table, but is none. Texts and packed
// bytes go through the same one, so that what is packed can be unpacked, and
// nothing else can.
func (t table) check() {
	// With a cycle above 0 this one product says that the frame is not 0,
	// divides the cycle, and has its number of frames.
	if t.cycle < 1 || t.cycle > maxTime || t.frame*len(t.frames) != t.cycle {
		refuse(ErrTable, 0)
	}
	var jobs [26]lastJob
	for frame, slices := range t.frames {
		checkBudgets(slices, t.frame)
		for _, s := range slices {
			if !isLetter(s.letter) {
				refuse(ErrTable, 0)
			}
			jobs[s.letter-'a'].checkNext(s.job, frame)
		}
	}
}

func checkBudgets(slices []slice, most int) {
	together := 0
	for _, s := range slices {
		together += s.budget
		if s.budget < 1 || together > most {
			refuse(ErrTable, 0)
		}
	}
}

// lastJob is what the check knows of one name: the job that came last is the
// one ahead of how many have begun.
type lastJob struct {
	begun int
	frame int // where it was last; means nothing before one has begun
}

const noFrame = -1

// checkNext falls through where a job begins: the next one then is the one
// that came last, and its slice a slice as any other.
func (last *lastJob) checkNext(job, frame int) {
	switch job {
	case last.begun:
		last.begun++
		last.frame = noFrame
		fallthrough
	case last.begun - 1:
		if last.frame == frame {
			refuse(ErrTable, 0)
		}
		last.frame = frame
	default:
		refuse(ErrTable, 0)
	}
}
