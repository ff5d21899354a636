package cyclic

const (
	sumBytes = 4
	// The divisor of CRC-32 without its leading term, the term of the greatest
	// power at bit 0.
	divisor = 0xedb88320
)

// sumOf answers the bytes of a CRC-32. It takes the bits of a byte from bit 0
// on, and its own bytes stand in that order too: so body and sum are one
// polynomial, in the order in which P7 counts bits. Turned bits that stand in a
// row of at most 32 add a power of x times a polynomial of a degree below 32,
// and no such one is a multiple of the divisor, which has the degree 32 and a
// constant term. So no such damage passes, wherever it lies.
func sumOf(body string) string {
	sum := ^uint32(0)
	for i := range len(body) {
		sum = addByte(sum, body[i])
	}
	sum = ^sum
	return string([]byte{byte(sum), byte(sum >> 8), byte(sum >> 16), byte(sum >> 24)})
}

func addByte(sum uint32, c byte) uint32 {
	sum ^= uint32(c)
	for range 8 {
		carry := sum & 1
		sum >>= 1
		if carry == 1 {
			sum ^= divisor
		}
	}
	return sum
}
