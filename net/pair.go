package net

// pair is two nodes, the lower one first, so that a and b are the pair that b and a are.
type pair [2]int

func pairOf(a, b int) pair {
	return pair{min(a, b), max(a, b)}
}
