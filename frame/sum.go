package frame

// Of the sum: the polynomial, with the bit of the highest power lowest, and what it is begun and turned over with.
const (
	polynomial = 0xEDB88320
	allOnes    = 0xFFFFFFFF
)

// Sum of a text.
func Sum(s string) uint32 {
	bring, rest := division()
	for i := range len(s) {
		bring(s[i])
	}
	return rest() ^ allOnes
}

// division brings bytes down one by one, and tells what is left so far.
func division() (bring func(b byte), rest func() uint32) {
	left := uint32(allOnes)
	bring = func(b byte) {
		left ^= uint32(b)
		for range 8 {
			left = left>>1 ^ polynomial*(left&1)
		}
	}
	return bring, func() uint32 { return left }
}

// sumText is a sum as it stands in a frame: the lowest byte first, unlike all the other numbers there.
func sumText(s string) string {
	sum := Sum(s)
	return string([]byte{byte(sum), byte(sum >> 8), byte(sum >> 16), byte(sum >> 24)})
}
