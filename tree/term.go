package tree

import (
	"tryst/api"
	"tryst/nodes"
	"tryst/term"
)

// The words with which the List of a node begins.
const (
	wordBlank = iota
	wordLeaf
	wordParent
)

// is tells whether there is a node i in the arena.
func is(a *term.Arena, i int) bool {
	return i >= 0 && i < a.Len()
}

// Term is the tree as a term.
func Term(a *term.Arena, t []api.Node) (int, api.Errno) {
	if e := Check(t); e != api.OK {
		return 0, e
	}
	for _, node := range t {
		if node.Kind != api.Blank && !is(a, node.Pub) || node.Kind == api.Leaf && !is(a, node.Sig) {
			return 0, api.ErrNone
		}
	}
	var args []int
	for _, node := range t {
		i, e := nodeTerm(a, node)
		if e != api.OK {
			return 0, e
		}
		args = append(args, i)
	}
	return a.Make(api.List, 0, args...)
}

// nodeTerm is a node as a term.
func nodeTerm(a *term.Arena, node api.Node) (int, api.Errno) {
	switch node.Kind {
	case api.Leaf:
		w, e := words(a, wordLeaf, node.Client)
		if e != api.OK {
			return 0, e
		}
		return a.Make(api.List, 0, w[0], w[1], node.Pub, node.Sig)
	case api.Parent:
		w, e := words(a, append([]int{wordParent}, node.Unmerged...)...)
		if e != api.OK {
			return 0, e
		}
		l, e := a.Make(api.List, 0, w[1:]...)
		if e != api.OK {
			return 0, e
		}
		return a.Make(api.List, 0, w[0], node.Pub, l)
	}
	return a.Make(api.Word, wordBlank)
}

// words makes numbers Words.
func words(a *term.Arena, l ...int) ([]int, api.Errno) {
	var out []int
	for _, n := range l {
		w, e := a.Make(api.Word, n)
		if e != api.OK {
			return nil, e
		}
		out = append(out, w)
	}
	return out, api.OK
}

// Of is the tree of which i is the term.
func Of(a *term.Arena, i int) ([]api.Node, api.Errno) {
	l, e := a.Node(i)
	if e != api.OK {
		return nil, e
	}
	if l.Kind != api.List || len(l.Args)%2 == 0 || !nodes.May((len(l.Args)+1)/2) {
		return nil, api.ErrTree
	}
	var t []api.Node
	for _, x := range l.Args {
		node, ok := nodeOf(a, x)
		if !ok {
			return nil, api.ErrTree
		}
		t = append(t, node)
	}
	if e := Check(t); e != api.OK {
		return nil, e
	}
	return t, api.OK
}

// nodeOf is the node of which i is the term, if it is of any.
func nodeOf(a *term.Arena, i int) (api.Node, bool) {
	if n, ok := number(a, i); ok {
		return api.Node{}, n == wordBlank
	}
	args, ok := list(a, i)
	if !ok || len(args) == 0 {
		return api.Node{}, false
	}
	kind, ok := number(a, args[0])
	switch {
	case ok && kind == wordLeaf && len(args) == 4:
		client, ok := number(a, args[1])
		return api.Node{Kind: api.Leaf, Client: client, Pub: args[2], Sig: args[3]}, ok
	case ok && kind == wordParent && len(args) == 3:
		unmerged, ok := numbers(a, args[2])
		return api.Node{Kind: api.Parent, Pub: args[1], Unmerged: unmerged}, ok
	}
	return api.Node{}, false
}

// number is the number of a Word.
func number(a *term.Arena, i int) (int, bool) {
	t, e := a.Node(i)
	return t.N, e == api.OK && t.Kind == api.Word
}

// list is the Args of a List.
func list(a *term.Arena, i int) ([]int, bool) {
	t, e := a.Node(i)
	return t.Args, e == api.OK && t.Kind == api.List
}

// numbers is the numbers of a List of Words.
func numbers(a *term.Arena, i int) ([]int, bool) {
	l, ok := list(a, i)
	if !ok {
		return nil, false
	}
	var out []int
	for _, x := range l {
		n, ok := number(a, x)
		if !ok {
			return nil, false
		}
		out = append(out, n)
	}
	return out, true
}
