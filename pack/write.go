package pack

import (
	"tryst/api"
	"tryst/fault"
	"tryst/parts"
	"tryst/term"
)

// step is a step's List.
func step(w *parts.Writer, s api.Step) int {
	return w.List(w.Word(s.Node), s.Pub, w.List(s.Boxes...))
}

// body is a commit's body.
func body(a *term.Arena, c api.Commit) (int, error) {
	if err := allowed(a, c); err != nil {
		return 0, fault.Wrap("body", err)
	}
	w := parts.Writer{Arena: a}
	var steps []int
	for _, s := range c.Steps {
		steps = append(steps, step(&w, s))
	}
	i := w.List(w.Word(wordCommit), w.Word(c.Epoch), w.Word(c.From), w.List(c.Adds...), w.Words(c.Removes), c.Pub, w.List(steps...))
	if w.Err != nil {
		return 0, fault.Wrap("body", w.Err)
	}
	return i, nil
}

// allowed tells what is wrong with a commit: its numbers, its lengths, its terms.
func allowed(a *term.Arena, c api.Commit) error {
	numbers := append([]int{c.Epoch, c.From}, c.Removes...)
	long := len(c.Adds) > api.MaxArgs || len(c.Removes) > api.MaxArgs || len(c.Steps) > api.MaxArgs
	terms := append([]int{c.Pub}, c.Adds...)
	for _, s := range c.Steps {
		numbers = append(numbers, s.Node)
		long = long || len(s.Boxes) > api.MaxArgs
		terms = append(append(terms, s.Pub), s.Boxes...)
	}
	for _, n := range numbers {
		if n < 0 {
			return fault.Of("number", api.ErrArg)
		}
	}
	if c.From >= api.MaxLeaves {
		return fault.Of("from", api.ErrArg)
	}
	if long {
		return fault.Of("length", api.ErrLen)
	}
	if !parts.Are(a, terms...) {
		return fault.Of("term", api.ErrNone)
	}
	return nil
}
