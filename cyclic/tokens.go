package cyclic

import "strconv"

type tokenKind int

const (
	endToken tokenKind = iota
	wordToken
	numberToken
	signToken
)

// token has the end of the text as a kind of its own, with the text's length
// as its place: a text that ends too early is refused as any wrong token is.
type token struct {
	kind  tokenKind
	text  string
	place int
}

// reader looks just one token ahead, so that what is no token is not found
// before all tokens ahead of it have been taken.
type reader struct {
	text  string
	wrong Errno // what it refuses with: task sets and tables share the tokens
	next  token
}

func newReader(text string, wrong Errno) *reader {
	r := &reader{text: text, wrong: wrong}
	r.next = r.tokenFrom(0)
	return r
}

func (r *reader) tokenFrom(place int) token {
	place += countLeading(r.text[place:], isBlank)
	rest := r.text[place:]
	if rest == "" {
		return token{endToken, "", place}
	}
	if letters := countLeading(rest, isLetter); letters > 0 {
		return token{wordToken, rest[:letters], place}
	}
	if digits := countLeading(rest, isDigit); digits > 0 && digits <= maxDigits {
		return token{numberToken, rest[:digits], place}
	}
	// A number with too many digits comes here too: it is no token, not two.
	if !isSign(rest[0]) {
		refuse(r.wrong, place)
	}
	return token{signToken, rest[:1], place}
}

func (r *reader) take() token {
	taken := r.next
	r.next = r.tokenFrom(taken.place + len(taken.text))
	return taken
}

// sees needs no kind: no two kinds of tokens share a text.
func (r *reader) sees(text string) bool {
	return r.next.text == text
}

func (r *reader) takeText(text string) {
	if !r.sees(text) {
		r.refuseNext()
	}
	r.take()
}

func (r *reader) takeName() name {
	if r.next.kind != wordToken || len(r.next.text) != 1 {
		r.refuseNext()
	}
	taken := r.take()
	return name{taken.text, taken.place}
}

func (r *reader) takeNumber() number {
	if r.next.kind != numberToken {
		r.refuseNext()
	}
	taken := r.take()
	// So few digits always are a number that fits.
	value, _ := strconv.Atoi(taken.text)
	return number{value, taken.place}
}

func (r *reader) seesEnd() bool {
	return r.next.kind == endToken
}

func (r *reader) takeEnd() {
	if !r.seesEnd() {
		r.refuseNext()
	}
}

func (r *reader) refuseNext() {
	refuse(r.wrong, r.next.place)
}

func countLeading(text string, belongs func(byte) bool) int {
	count := 0
	for count < len(text) && belongs(text[count]) {
		count++
	}
	return count
}

func isBlank(c byte) bool  { return c == ' ' || c == '\n' }
func isLetter(c byte) bool { return 'a' <= c && c <= 'z' }
func isDigit(c byte) bool  { return '0' <= c && c <= '9' }
func isSign(c byte) bool   { return c == ',' || c == ';' || c == ':' }
