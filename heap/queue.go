package heap

import (
	"slices"

	"rickstead/api"
)

// Queue is a heap of whatever is needed, as many as come. It is for the program's own layers.
type Queue[T any] struct {
	ahead func(a, b T) bool
	held  []T
}

// NewQueue is told by a function whether a comes ahead of b.
func NewQueue[T any](ahead func(a, b T) bool) *Queue[T] {
	return &Queue[T]{ahead: ahead}
}

// Many tells how many are held.
func (q *Queue[T]) Many() int { return len(q.held) }

// Push one more.
func (q *Queue[T]) Push(x T) {
	q.held = append(q.held, x)
	rise(q.held, len(q.held)-1, q.ahead)
}

// First of what is held, which stays.
func (q *Queue[T]) First() (T, error) {
	if len(q.held) == 0 {
		var none T
		return none, api.ErrNone
	}
	return q.held[0], nil
}

// Pop the first of what is held.
func (q *Queue[T]) Pop() (T, error) {
	first, err := q.First()
	if err != nil {
		return first, err
	}
	last := len(q.held) - 1
	q.held[0] = q.held[last]
	// Delete wipes the place, too, so that nothing that went out is kept.
	q.held = slices.Delete(q.held, last, last+1)
	sink(q.held, 0, q.ahead)
	return first, nil
}

// Drain pops one after another for a range, till none is held: what is pushed meanwhile comes in its turn.
// What a range that ends early has not had is still held.
func (q *Queue[T]) Drain(yield func(T) bool) {
	for {
		x, err := q.Pop()
		if err != nil || !yield(x) {
			return
		}
	}
}
