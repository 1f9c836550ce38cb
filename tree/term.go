package tree

import (
	"tryst/api"
	"tryst/fault"
	"tryst/nodes"
	"tryst/parts"
	"tryst/term"
)

// The words with which the List of a node begins.
const (
	wordBlank = iota
	wordLeaf
	wordParent
)

// Term is the tree as a term.
func Term(a *term.Arena, t []api.Node) (int, api.Errno) {
	if e := Check(t); e != api.OK {
		return 0, e
	}
	for _, node := range t {
		if node.Kind != api.Blank && !parts.Are(a, node.Pub) || node.Kind == api.Leaf && !parts.Are(a, node.Sig) {
			return 0, api.ErrNone
		}
	}
	w := parts.Writer{Arena: a}
	var args []int
	for _, node := range t {
		args = append(args, nodeTerm(&w, node))
	}
	i := w.List(args...)
	return i, fault.Number(w.Err)
}

// nodeTerm is a node as a term.
func nodeTerm(w *parts.Writer, node api.Node) int {
	switch node.Kind {
	case api.Leaf:
		return w.List(w.Word(wordLeaf), w.Word(node.Client), node.Pub, node.Sig)
	case api.Parent:
		return w.List(w.Word(wordParent), node.Pub, w.Words(node.Unmerged))
	}
	return w.Word(wordBlank)
}

// Of is the tree of which i is the term.
func Of(a *term.Arena, i int) ([]api.Node, api.Errno) {
	l, e := a.Node(i)
	if e != api.OK {
		return nil, e
	}
	if l.Kind != api.List || len(l.Args)%2 == 0 || !nodes.May((len(l.Args)+1)/2) {
		return nil, api.ErrTree
	}
	var t []api.Node
	for _, x := range l.Args {
		node, ok := nodeOf(a, x)
		if !ok {
			return nil, api.ErrTree
		}
		t = append(t, node)
	}
	if e := Check(t); e != api.OK {
		return nil, e
	}
	return t, api.OK
}

// nodeOf is the node of which i is the term, if it is of any.
func nodeOf(a *term.Arena, i int) (api.Node, bool) {
	if n, err := parts.Number(a, i); err == nil {
		return api.Node{}, n == wordBlank
	}
	args, err := parts.Of(a, i, api.List)
	if err != nil || len(args) == 0 {
		return api.Node{}, false
	}
	kind, err := parts.Number(a, args[0])
	switch {
	case err == nil && kind == wordLeaf && len(args) == 4:
		client, err := parts.Number(a, args[1])
		return api.Node{Kind: api.Leaf, Client: client, Pub: args[2], Sig: args[3]}, err == nil
	case err == nil && kind == wordParent && len(args) == 3:
		unmerged, err := parts.Numbers(a, args[2])
		return api.Node{Kind: api.Parent, Pub: args[1], Unmerged: unmerged}, err == nil
	}
	return api.Node{}, false
}
