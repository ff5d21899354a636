package cyclic

// refusal is what a reader panics with: it gives up from deep within, and
// nothing between there and the face has to hand the reason on.
type refusal struct {
	errno Errno
	place int
}

func refuse(errno Errno, place int) {
	panic(refusal{errno, place})
}

// guard is the face's side of refuse: no panic goes past it, and with an
// error nothing of a half-made answer is left.
func guard(work func() string) (answer string, errno Errno, place int) {
	defer func() {
		if thrown := recover(); thrown != nil {
			why := reasonOf(thrown)
			answer, errno, place = "", why.errno, why.place
		}
	}()
	return work(), OK, 0
}

func reasonOf(thrown any) refusal {
	if why, ok := thrown.(refusal); ok {
		return why
	}
	// Nothing else is thrown on purpose; but a call must not panic (P1).
	return refusal{ErrForm, 0}
}
