package mark

import "slices"

// stack is where something stands in what it has to do: things that lead to others, which come ahead of all that was there before.
type stack struct {
	todo  []func() // the last one is next
	added []func() // behind all of todo, the first one first
}

// push lays something on top: it is next.
func (s *stack) push(do func()) {
	s.todo = append(s.todo, do)
}

// add lays something below all that is there.
func (s *stack) add(do func()) {
	s.added = append(s.added, do)
}

// next takes off what is next; nil, if nothing is left.
func (s *stack) next() func() {
	if len(s.todo) == 0 {
		slices.Reverse(s.added)
		s.todo, s.added = s.added, s.todo
	}
	if len(s.todo) == 0 {
		return nil
	}
	last := len(s.todo) - 1
	do := s.todo[last]
	s.todo[last] = nil // else what it leads to would be kept
	s.todo = s.todo[:last]
	return do
}
