package real

import (
	"tryst/aead"
	"tryst/api"
	"tryst/dh"
	"tryst/mac"
	"tryst/sha"
	"tryst/sign"
	"tryst/term"
)

// numberSize is how many bytes N has.
const numberSize = 8

// writer has the bytes of nodes that are done: those of a node's Args ahead of its own.
type writer struct {
	arena *term.Arena
	done  map[int][]byte
}

// write is the bytes of a node.
func (w *writer) write(i int) ([]byte, api.Errno) {
	t, e := w.arena.Node(i)
	if e != api.OK {
		return nil, e
	}
	switch t.Kind {
	case api.Atom:
		return hashed("atom", putNumber(nil, t.N, numberSize)), api.OK
	case api.Word:
		return hashed("word", putNumber(nil, t.N, numberSize)), api.OK
	case api.Hash:
		l, e := w.join(t.Args)
		if e != api.OK {
			return nil, e
		}
		return hashed("hash", l), api.OK
	case api.Kdf:
		key := w.key(t.Args[0])
		return mac.Expand(key[:], putNumber([]byte("kdf"), t.N, numberSize), 32)
	case api.Pub:
		return pub(w.key(t.Args[0])), api.OK
	case api.Seal:
		return w.seal(w.key(t.Args[0]), t.Args[1:])
	case api.Box:
		return w.box(t.Args)
	case api.Sig:
		return w.sig(t.Args)
	}
	return w.join(t.Args)
}

// hashed is the sum of a word and of b.
func hashed(word string, b []byte) []byte {
	sum := sha.Sum256(append([]byte(word), b...))
	return sum[:]
}

// join is the Join of the bytes of nodes.
func (w *writer) join(args []int) ([]byte, api.Errno) {
	l := make([][]byte, 0, len(args))
	for _, x := range args {
		l = append(l, w.done[x])
	}
	return Join(l)
}

// key is the key of a node's bytes.
func (w *writer) key(i int) [32]byte {
	return Key(w.done[i])
}

// pub is both public parts of a key.
func pub(key [32]byte) []byte {
	place, point := dh.Public(key), sign.Public(key)
	return append(place[:], point[:]...)
}

// seal is the Join of nodes, sealed.
func (w *writer) seal(key [32]byte, args []int) ([]byte, api.Errno) {
	text, e := w.join(args)
	if e != api.OK {
		return nil, e
	}
	return aead.Seal(key, [12]byte{}, nil, text)
}

// box is the bytes of a Box: its maker's place, and the others, sealed.
func (w *writer) box(args []int) ([]byte, api.Errno) {
	if t, e := w.arena.Node(args[0]); e != api.OK || t.Kind != api.Pub {
		return nil, api.ErrKind
	}
	own := w.key(args[1])
	k, e := boxKey(own, [dhSize]byte(w.done[args[0]][:dhSize]))
	if e != api.OK {
		return nil, e
	}
	sealed, e := w.seal(k, args[2:])
	if e != api.OK {
		return nil, e
	}
	place := dh.Public(own)
	return append(place[:], sealed...), api.OK
}

// sig is the bytes of a Sig: the signature, and what is signed.
func (w *writer) sig(args []int) ([]byte, api.Errno) {
	text, e := w.join(args[1:])
	if e != api.OK {
		return nil, e
	}
	signature, e := sign.Sign(w.key(args[0]), text)
	if e != api.OK {
		return nil, e
	}
	return append(signature[:], text...), api.OK
}
