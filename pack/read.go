package pack

import (
	"tryst/api"
	"tryst/fault"
	"tryst/parts"
	"tryst/term"
)

// readBody is the commit that a body says, without its Tag.
func readBody(a *term.Arena, i int) (api.Commit, error) {
	l, err := parts.Just(a, i, api.List, 7)
	if err != nil {
		return api.Commit{}, err
	}
	c := api.Commit{Pub: l[5]}
	first, err := parts.Number(a, l[0])
	if err != nil {
		return api.Commit{}, fault.Wrap("first", err)
	}
	if first != wordCommit {
		return api.Commit{}, fault.Of("first", api.ErrKind)
	}
	if c.Epoch, err = parts.Number(a, l[1]); err != nil {
		return api.Commit{}, fault.Wrap("epoch", err)
	}
	if c.From, err = parts.Number(a, l[2]); err != nil {
		return api.Commit{}, fault.Wrap("from", err)
	}
	if c.Adds, err = parts.Of(a, l[3], api.List); err != nil {
		return api.Commit{}, fault.Wrap("adds", err)
	}
	if c.Removes, err = parts.Numbers(a, l[4]); err != nil {
		return api.Commit{}, fault.Wrap("removes", err)
	}
	if c.Steps, err = readSteps(a, l[6]); err != nil {
		return api.Commit{}, fault.Wrap("steps", err)
	}
	return c, nil
}

// readSteps is the steps that a List says.
func readSteps(a *term.Arena, i int) ([]api.Step, error) {
	l, err := parts.Of(a, i, api.List)
	if err != nil {
		return nil, err
	}
	var out []api.Step
	for _, x := range l {
		s, err := readStep(a, x)
		if err != nil {
			return nil, err
		}
		out = append(out, s)
	}
	return out, nil
}

// readStep is the step that a List says.
func readStep(a *term.Arena, i int) (api.Step, error) {
	l, err := parts.Just(a, i, api.List, 3)
	if err != nil {
		return api.Step{}, err
	}
	node, err := parts.Number(a, l[0])
	if err != nil {
		return api.Step{}, fault.Wrap("node", err)
	}
	boxes, err := parts.Of(a, l[2], api.List)
	if err != nil {
		return api.Step{}, fault.Wrap("boxes", err)
	}
	return api.Step{Node: node, Pub: l[1], Boxes: boxes}, nil
}
