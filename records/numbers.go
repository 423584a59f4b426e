package records

const (
	sumStart  uint32 = 2166136261
	sumFactor uint32 = 16777619
)

// sum goes on from the sum of the bytes ahead.
func sum(ahead uint32, list []byte) uint32 {
	for _, b := range list {
		ahead = (ahead ^ uint32(b)) * sumFactor
	}
	return ahead
}

// seal tells the sum of the record that begins at a place and takes the rest of the log.
func seal(log []byte, at int) uint32 {
	if at == 0 {
		var none [sumSize]byte
		return sum(sum(sumStart, none[:]), log)
	}
	// The sum of the record ahead ends where this one begins, so that one piece has both.
	return sum(sumStart, log[at-sumSize:])
}

// appendNumber writes a number, the lowest byte first; one below 0 comes out as more by 2 to the power of its bits.
func appendNumber(log []byte, n int, size int) []byte {
	for range size {
		log = append(log, byte(n))
		n >>= 8
	}
	return log
}

// number reads what appendNumber wrote.
func number(list []byte) uint32 {
	var n uint32
	for i, b := range list {
		n |= uint32(b) << (8 * i)
	}
	return n
}
