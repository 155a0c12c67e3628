package walk

// least tells the place, of n that stand in a ring, from which on the ring is ahead of what it is from all others, or the same; 0, if there is none. How two places are to one another is handed in. It takes no more than some three steps a place, however alike they are.
func least(n int, compare func(i, j int) int) int {
	a, b, same := 0, 1, 0
	for a < n && b < n && same < n {
		c := compare((a+same)%n, (b+same)%n)
		if c == 0 {
			same++
			continue
		}
		// Where the two part, all places that were gone through from the worse one on are out: from the place as far behind the other one the ring is ahead of what it is from them.
		if c > 0 {
			a += same + 1
		} else {
			b += same + 1
		}
		if a == b {
			b++
		}
		same = 0
	}
	return min(a, b)
}
