package lang

import "ganglion/api"

// names are things of one sort, in the order in which they were defined, and found by their names.
type names[T any] struct {
	most int // so many there can be
	list []T
	at   map[string]int
}

func newNames[T any](most int) names[T] { return names[T]{most: most, at: map[string]int{}} }

// fresh returns a word that is to be a name of this sort, and is none yet.
func (n *names[T]) fresh(word string) string {
	need(isName(word), api.ErrName)
	_, has := n.at[word]
	need(!has, api.ErrHave)
	return word
}

// find returns what has a name.
func (n *names[T]) find(word string) T {
	i, has := n.at[word]
	need(has, api.ErrNone)
	return n.list[i]
}

// room makes sure that one more can be defined.
func (n *names[T]) room() { need(len(n.list) < n.most, api.ErrMany) }

// add defines a name that is fresh, if there is room.
func (n *names[T]) add(name string, x T) {
	n.room()
	n.at[name] = len(n.list)
	n.list = append(n.list, x)
}
