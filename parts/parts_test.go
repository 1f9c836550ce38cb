package parts

import (
	"errors"
	"slices"
	"testing"

	"tryst/api"
	"tryst/fault"
	"tryst/term"
)

func TestWriter(t *testing.T) {
	w := Writer{Arena: term.New()}
	k := w.Put(api.Atom, 1)
	l := w.List(w.Words([]int{3, 4}), w.Pub(w.Kdf(k, 2)), w.Word(9))
	if w.Err != nil {
		t.Fatal(w.Err)
	}
	args, err := Just(w.Arena, l, api.List, 3)
	if err != nil {
		t.Fatal(err)
	}
	numbers, err := Numbers(w.Arena, args[0])
	n, other := Number(w.Arena, args[2])
	if err != nil || other != nil || !slices.Equal(numbers, []int{3, 4}) || n != 9 || !IsPub(w.Arena, args[1]) || IsPub(w.Arena, k) || IsPub(w.Arena, -1) {
		t.Error(numbers, n, err, other)
	}
	before := w.Arena.Len()
	if w.Pub(1<<40) != 0 || !errors.Is(w.Err, api.ErrNone) || w.Word(77) != 0 || w.Arena.Len() != before {
		t.Error("an error is not kept")
	}
}

func TestWrong(t *testing.T) {
	w := Writer{Arena: term.New()}
	k := w.Put(api.Atom, 1)
	l := w.List(k, k)
	for i, f := range []func() error{
		func() error { _, err := Of(w.Arena, k, api.List); return err },
		func() error { _, err := Just(w.Arena, l, api.List, 3); return err },
		func() error { _, err := Number(w.Arena, k); return err },
		func() error { _, err := Numbers(w.Arena, l); return err },
		func() error { _, err := Numbers(w.Arena, k); return err },
	} {
		if err := f(); fault.Number(err) != api.ErrKind {
			t.Error(i, err)
		}
	}
	if _, err := Of(w.Arena, 99, api.List); fault.Number(err) != api.ErrNone {
		t.Error(err)
	}
	if _, err := Number(w.Arena, -1); fault.Number(err) != api.ErrNone {
		t.Error(err)
	}
	if !Are(w.Arena) || !Are(w.Arena, k, l) || Are(w.Arena, k, -1) || Are(w.Arena, l+1) {
		t.Error("Are")
	}
}
