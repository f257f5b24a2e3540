package code

// unsigned are the numbers that are written with their lowest byte first: those of fields, and those of frames.
type unsigned interface {
	uint32 | uint64
}

// width answers how many bytes say n, without a 0 at the highest place.
func width(n uint64) int {
	count := 0
	for ; n > 0; n >>= 8 {
		count++
	}
	return count
}

// putLow adds the count lowest bytes of n to b, the lowest first.
func putLow[U unsigned](b []byte, n U, count int) []byte {
	for range count {
		b = append(b, byte(n))
		n >>= 8
	}
	return b
}

// getLow answers the number whose bytes b is, the lowest first.
func getLow[U unsigned](b string) U {
	var n U
	for i := len(b) - 1; i >= 0; i-- {
		n = n<<8 | U(b[i])
	}
	return n
}
