package net

// heap gives back its elements in the order of less. The list is a tree: below the element i are the elements 2 i + 1
// and 2 i + 2, which come no earlier.
type heap[T any] struct {
	less func(a, b T) bool
	list []T
}

// push adds an element.
func (h *heap[T]) push(x T) {
	h.list = append(h.list, x)
	for i := len(h.list) - 1; i > 0; {
		above := (i - 1) / 2
		if !h.less(h.list[i], h.list[above]) {
			return
		}
		h.swap(i, above)
		i = above
	}
}

// pop removes the first element and returns it, if there is one.
func (h *heap[T]) pop() (T, bool) {
	if len(h.list) == 0 {
		var none T
		return none, false
	}
	x, last := h.list[0], len(h.list)-1
	h.swap(0, last)
	h.list = h.list[:last]
	for i := 0; ; {
		least := i
		for below := 2*i + 1; below <= 2*i+2 && below < last; below++ {
			if h.less(h.list[below], h.list[least]) {
				least = below
			}
		}
		if least == i {
			return x, true
		}
		h.swap(i, least)
		i = least
	}
}

func (h *heap[T]) swap(i, j int) { h.list[i], h.list[j] = h.list[j], h.list[i] }
