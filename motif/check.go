package motif

// among says whether x is from least to most.
func among(x, least, most int) bool { return least <= x && x <= most }

// below says whether all elements are from 0 to n - 1.
func below(l []int, n int) bool {
	for _, x := range l {
		if !among(x, 0, n-1) {
			return false
		}
	}
	return true
}

// repeated returns the place of the first element that is equal to an earlier one, or the length of the list.
func repeated[T comparable](l []T) int {
	seen := map[T]bool{}
	for i, x := range l {
		if seen[x] {
			return i
		}
		seen[x] = true
	}
	return len(l)
}

// different says whether no two elements are equal.
func different[T comparable](l []T) bool { return repeated(l) == len(l) }
