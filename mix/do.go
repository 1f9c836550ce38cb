package mix

import (
	"slices"

	"tryst/api"
	"tryst/parts"
	"tryst/term"
)

// payload is what a payload asks: its Word, what it is about, and what it brings.
type payload struct{ word, about, brings int }

// read reads a payload: its word is 0, if it asks for nothing.
func read(a *term.Arena, i int) payload {
	l, err := parts.Of(a, i, api.List)
	if err != nil || len(l) < 2 || len(l) > 3 {
		return payload{}
	}
	word, err := parts.Number(a, l[0])
	switch {
	case err != nil:
		return payload{}
	case len(l) == 3 && (word == wordWrite || word == wordMeet):
		return payload{word, l[1], l[2]}
	case len(l) == 2 && word == wordRead:
		return payload{word: word, about: l[1]}
	}
	return payload{}
}

// do does payloads in order.
func do(a *term.Arena, regs []api.Reg, l []int) ([]api.Reg, []int, api.Errno) {
	nothing, e := a.Make(api.Word, 0)
	if e != api.OK {
		return nil, nil, e
	}
	var asked []payload
	for _, i := range l {
		asked = append(asked, read(a, i))
	}
	next := slices.Clone(regs)
	var out []int
	for i, p := range asked {
		answer := nothing
		switch p.word {
		case wordWrite:
			if register(next, p.about) < 0 {
				next = append(next, api.Reg{Id: p.about, Value: p.brings})
			}
			fallthrough
		case wordRead:
			if at := register(next, p.about); at >= 0 {
				answer = next[at].Value
			}
		case wordMeet:
			if other := meets(asked, i); other >= 0 {
				answer = asked[other].brings
			}
		}
		out = append(out, answer)
	}
	return next, out, api.OK
}

// register is where a register stands, or -1.
func register(regs []api.Reg, id int) int {
	return slices.IndexFunc(regs, func(r api.Reg) bool { return r.Id == id })
}

// meets is the place of the only other one that the i-th meets, or -1.
func meets(asked []payload, i int) int {
	other := -1
	for j, p := range asked {
		if j == i || p.word != wordMeet || p.about != asked[i].about {
			continue
		}
		if other >= 0 {
			return -1
		}
		other = j
	}
	return other
}
