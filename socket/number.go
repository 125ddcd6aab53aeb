package socket

// number is the number of two or of eight bytes, the highest first: the last two of eight are put together as two alone are.
func number(s string) uint64 {
	n := uint64(0)
	switch last := len(s) - 2; len(s) {
	case 8:
		for i := range last {
			n = n<<8 | uint64(s[i])
		}
		fallthrough
	case 2:
		n = n<<16 | uint64(s[last])<<8 | uint64(s[last+1])
	}
	return n
}

// appendNumber lays a number behind, in two bytes or in eight, the highest first; in none it is laid nowhere.
func appendNumber(to []byte, n uint64, size int) []byte {
	switch size {
	case 8:
		to = append(to, byte(n>>56), byte(n>>48), byte(n>>40), byte(n>>32), byte(n>>24), byte(n>>16))
		fallthrough
	case 2:
		to = append(to, byte(n>>8), byte(n))
	}
	return to
}
