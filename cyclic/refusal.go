package cyclic

// refusal is what a reader panics with: it gives up from deep within, and
// nothing between there and the face has to hand the reason on.
type refusal struct {
	errno Errno
	place int
}

func refuse(errno Errno, place int) {
	panic(refusal{errno, place})
}

// guard is the face's side of refuse: no panic goes past it, and with an
// error nothing of a half-made answer is left. The call's own error stands in
// for a reason that no reader told.
func guard(own Errno, work func() string) (answer string, errno Errno, place int) {
	defer func() {
		if thrown := recover(); thrown != nil {
			why := reasonOf(thrown, own)
			answer, errno, place = "", why.errno, why.place
		}
	}()
	return work(), OK, 0
}

func reasonOf(thrown any, own Errno) refusal {
	if why, ok := thrown.(refusal); ok {
		return why
	}
	// Nothing else is thrown on purpose; but a call must not panic (P1).
	return refusal{own, 0}
}
