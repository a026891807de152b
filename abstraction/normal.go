package abstraction

import (
	"cmp"
	"slices"

	"evergreen/api"
)

// maxHalves is how many halvings make 1 of every width and height.
const maxHalves = 5

// normal returns the normal form of steps that are all allowed for the same property.
func normal(l []api.Step) []api.Step {
	if lost := ofKind(l, api.ALost); len(lost) > 0 {
		return lost[:1]
	}
	var out []api.Step
	for kind := api.AFold; kind < api.ALost; kind++ {
		if same := ofKind(l, kind); len(same) > 0 {
			out = append(out, fewest(kind, same)...)
		}
	}
	return out
}

// ofKind returns the steps of a kind.
func ofKind(l []api.Step, kind int) []api.Step {
	var out []api.Step
	for _, s := range l {
		if s.Kind == kind {
			out = append(out, s)
		}
	}
	return out
}

// fewest returns the fewest steps that do what one or more steps of a kind do.
func fewest(kind int, l []api.Step) []api.Step {
	switch kind {
	case api.ARound:
		return []api.Step{slices.MaxFunc(l, byNumber)}
	case api.AMarks:
		return []api.Step{slices.MinFunc(l, byNumber)}
	case api.AHalve:
		return l[:min(len(l), maxHalves)]
	}
	return l[:1]
}

// byNumber compares steps of the same kind.
func byNumber(a api.Step, b api.Step) int { return cmp.Compare(a.N, b.N) }
