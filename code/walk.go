package code

import "iter"

// place says where a unit is, and who is before it. For this the inputs, and then the units, are numbered on and on.
type place struct {
	layer  int
	index  int // in its layer
	unit   int // among all units
	first  int // the number of the first one before it
	behind int // the number behind the last one before it
}

// places yields the places of all units, layer by layer; the sizes are the number of inputs, and those of the layers.
func places(sizes []int) iter.Seq[place] {
	return func(yield func(place) bool) {
		first, unit := 0, 0
		for layer, size := range sizes[1:] {
			behind := first + sizes[layer]
			for index := range size {
				if !yield(place{layer, index, unit, first, behind}) {
					return
				}
				unit++
			}
			first = behind
		}
	}
}

// sizes returns the number of inputs, and how many units each layer has.
func sizes[T any](inputs int, l []T, units func(T) int) []int {
	out := []int{inputs}
	for _, x := range l {
		out = append(out, units(x))
	}
	return out
}

// weigh adds the weights of values, each as often as its value is worth.
func weigh[T bool | int](weights []int, values []T, worth func(T) int) int {
	sum := 0
	for i, v := range values {
		sum += weights[i] * worth(v)
	}
	return sum
}
