package ring

// What FNV-1a of 64 bits begins with, and what it multiplies by; and what the one mixing behind it does.
const (
	basis  uint64 = 14695981039346656037
	prime  uint64 = 1099511628211
	factor uint64 = 18397679294719823053
	shift         = 33
)

// folded goes on with FNV-1a from where it stands, so that texts with the same beginning need not begin anew.
func folded(stands uint64, s string) uint64 {
	for i := range len(s) {
		stands = (stands ^ uint64(s[i])) * prime
	}
	return stands
}

func mixed(x uint64) uint64 {
	x = (x ^ x>>shift) * factor
	return x ^ x>>shift
}
