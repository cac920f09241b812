package code

// within says whether all numbers are from least to most.
func within(least, most int, l ...int) bool {
	for _, x := range l {
		if x < least || x > most {
			return false
		}
	}
	return true
}
