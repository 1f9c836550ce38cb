// Package parts makes terms of parts, and reads their parts: what goes wrong on the way is kept, wrapped.
package parts

import (
	"tryst/api"
	"tryst/fault"
	"tryst/term"
)

// Are tells whether all of l are nodes.
func Are(a *term.Arena, l ...int) bool {
	for _, i := range l {
		if i < 0 || i >= a.Len() {
			return false
		}
	}
	return true
}

// IsPub tells whether i is a Pub.
func IsPub(a *term.Arena, i int) bool {
	t, e := a.Node(i)
	return e == api.OK && t.Kind == api.Pub
}

// Of is the Args of a node of that kind.
func Of(a *term.Arena, i, kind int) ([]int, error) {
	t, e := a.Node(i)
	if e != api.OK {
		return nil, fault.Of("node", e)
	}
	if t.Kind != kind {
		return nil, fault.Of("kind", api.ErrKind)
	}
	return t.Args, nil
}

// Just is the Args of a node of that kind that has just so many.
func Just(a *term.Arena, i, kind, count int) ([]int, error) {
	l, err := Of(a, i, kind)
	if err != nil {
		return nil, err
	}
	if len(l) != count {
		return nil, fault.Of("count", api.ErrKind)
	}
	return l, nil
}

// Number is the number of a Word.
func Number(a *term.Arena, i int) (int, error) {
	t, e := a.Node(i)
	if e != api.OK {
		return 0, fault.Of("node", e)
	}
	if t.Kind != api.Word {
		return 0, fault.Of("word", api.ErrKind)
	}
	return t.N, nil
}

// Numbers is the numbers of a List of Words.
func Numbers(a *term.Arena, i int) ([]int, error) {
	l, err := Of(a, i, api.List)
	if err != nil {
		return nil, err
	}
	var out []int
	for _, x := range l {
		n, err := Number(a, x)
		if err != nil {
			return nil, fault.Wrap("list", err)
		}
		out = append(out, n)
	}
	return out, nil
}

// Writer makes terms, till one cannot be made: Err is then why.
type Writer struct {
	Arena *term.Arena
	Err   error
}

// Put is a term.
func (w *Writer) Put(kind, n int, args ...int) int {
	if w.Err != nil {
		return 0
	}
	i, e := w.Arena.Make(kind, n, args...)
	w.Err = fault.Of("term", e)
	return i
}

// Kdf is what is derived of x for a purpose.
func (w *Writer) Kdf(x, purpose int) int {
	return w.Put(api.Kdf, purpose, x)
}

// Pub is the public part of x.
func (w *Writer) Pub(x int) int {
	return w.Put(api.Pub, 0, x)
}

// Word is a Word.
func (w *Writer) Word(n int) int {
	return w.Put(api.Word, n)
}

// List is a List.
func (w *Writer) List(args ...int) int {
	return w.Put(api.List, 0, args...)
}

// Words is a List of Words.
func (w *Writer) Words(l []int) int {
	var args []int
	for _, n := range l {
		args = append(args, w.Word(n))
	}
	return w.List(args...)
}
