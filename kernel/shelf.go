package kernel

import (
	"iter"

	"timekeeper/api"
	"timekeeper/handles"
)

// shelf is where what handles name stands: at the place of its handle.
type shelf[T any] struct {
	names *handles.Table
	at    []*T // nil, where a place is free
}

func newShelf[T any](most int) shelf[T] {
	names, _ := handles.New(most) // never refused: so many a table may have
	return shelf[T]{names: names, at: make([]*T, most)}
}

// put gives it a handle, and lets it stand at its place.
func (s *shelf[T]) put(it *T) (h uint32, place int, e api.Errno) {
	h, e = s.names.Make()
	if e != api.OK {
		return 0, 0, e
	}
	place, _ = s.names.Place(h)
	s.at[place] = it
	return h, place, api.OK
}

func (s *shelf[T]) find(h uint32) (*T, api.Errno) {
	place, e := s.names.Place(h)
	if e != api.OK {
		return nil, e
	}
	return s.at[place], api.OK
}

// drop what a handle names: behind that the handle tells no place any more.
func (s *shelf[T]) drop(h uint32) {
	place, e := s.names.Place(h)
	if e != api.OK {
		return
	}
	s.names.Drop(h)
	s.at[place] = nil
}

// all that stand there, by their places.
func (s *shelf[T]) all() iter.Seq[*T] {
	return func(yield func(*T) bool) {
		for _, it := range s.at {
			if it != nil && !yield(it) {
				return
			}
		}
	}
}
