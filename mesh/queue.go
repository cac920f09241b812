package mesh

import "slices"

// queue has room for some elements, and gives back first what was put in first. A nil queue is empty.
type queue[T any] struct {
	room int
	list []T
}

// put adds an element at the end, if there is a free place.
func (q *queue[T]) put(x T) bool {
	if len(q.list) == q.room {
		return false
	}
	q.list = append(q.list, x)
	return true
}

// take removes the first element and returns it, if there is one.
func (q *queue[T]) take() (T, bool) {
	if q == nil || len(q.list) == 0 {
		var none T
		return none, false
	}
	x := q.list[0]
	q.list = slices.Delete(q.list, 0, 1)
	return x, true
}
