package chain

import "slices"

// line is things in order: they are put in behind, and taken from the front.
type line[T any] struct {
	list []T
}

func (l *line[T]) put(x T) {
	l.list = append(l.list, x)
}

func (l *line[T]) many() int {
	return len(l.list)
}

// first answers the first things, at most so many, which stay. They are the line's own.
func (l *line[T]) first(most int) []T {
	return l.list[:min(most, len(l.list))]
}

// taken takes so many things, which must be there, from the front of a line. What is left gets a list of its own, so that whoever has those that are taken shares nothing with the line, and the line holds on to none of them.
func taken[T any](l *line[T], many int) []T {
	front := l.list[:many:many]
	l.list = slices.Clone(l.list[many:])
	return front
}
