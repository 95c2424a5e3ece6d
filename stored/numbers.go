package stored

// A byte holds seven bits of a number, the lowest first, and says by more that the next byte holds more of them.
const (
	bits     = 7
	more     = 1 << bits
	mostBits = 3 * bits // of a number: enough for every scalar
)

func appendNumber(out []byte, n int) []byte {
	for n >= more {
		out = append(out, byte(n%more+more))
		n /= more
	}
	return append(out, byte(n))
}

// numbers gives those with which the bytes begin.
func numbers(s string) []int {
	var list []int
	n, shift := 0, 0
	for _, b := range []byte(s) {
		if shift == mostBits {
			break
		}
		n += int(b%more) << shift
		shift += bits
		if b < more {
			list = append(list, n)
			n, shift = 0, 0
		}
	}
	return list
}
