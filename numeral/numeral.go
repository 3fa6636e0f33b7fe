// Package numeral: numbers as bytes, the highest one first.
package numeral

// Append a number in its lowest bytes, so many of them.
func Append(b []byte, n uint64, width int) []byte {
	for i := range width {
		b = append(b, byte(n>>(8*(width-1-i))))
	}
	return b
}

// Of bytes the number that they are, by the last eight of them.
func Of(b []byte) uint64 {
	var n uint64
	for _, c := range b {
		n = n<<8 | uint64(c)
	}
	return n
}
