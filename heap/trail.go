package heap

import "slices"

// Trail has things in a row, and marks.
type Trail[T any] struct {
	things []T
	marks  []int
}

// Push appends a thing.
func (t *Trail[T]) Push(x T) {
	if t != nil {
		t.things = append(t.things, x)
	}
}

// Len is how many things there are.
func (t *Trail[T]) Len() int {
	if t == nil {
		return 0
	}
	return len(t.things)
}

// At is the thing of an index.
func (t *Trail[T]) At(i int) (x T, ok bool) {
	if i < 0 || i >= t.Len() {
		return x, false
	}
	return t.things[i], true
}

// Mark sets a mark after all things, and is the level before.
func (t *Trail[T]) Mark() int {
	if t == nil {
		return 0
	}
	t.marks = append(t.marks, len(t.things))
	return len(t.marks) - 1
}

// Level is how many marks there are.
func (t *Trail[T]) Level() int {
	if t == nil {
		return 0
	}
	return len(t.marks)
}

// Back takes away a mark and all that came after it; it is the things that are gone, the last one first.
func (t *Trail[T]) Back(level int) []T {
	if level < 0 || level >= t.Level() {
		return nil
	}
	kept := t.marks[level]
	gone := slices.Clone(t.things[kept:])
	slices.Reverse(gone)
	clear(t.things[kept:])
	t.things, t.marks = t.things[:kept], t.marks[:level]
	return gone
}
