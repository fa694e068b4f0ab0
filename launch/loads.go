package launch

import (
	"slices"

	"coble/api"
	"coble/checks"
)

func checkLoads(b api.Class, l []api.Load) api.Errno {
	if e := Check(b); e != api.OK {
		return e
	}
	if len(l) > api.MaxLoads {
		return api.ErrMany
	}
	if !checks.All(l, isLoad) {
		return api.ErrLoad
	}
	return api.OK
}

func isLoad(l api.Load) bool {
	return checks.Within(0, api.MaxCargo)(l.Weight) && checks.Between(0, api.MaxHeight)(l.Height)
}

// heelOf returns the span of the weights times the heights of all loads but those that are away.
func heelOf(l []api.Load, away []int) api.Span {
	var heel api.Span
	for i, x := range l {
		if !slices.Contains(away, i) {
			heel.Low += x.Weight.Low * x.Height
			heel.High += x.Weight.High * x.Height
		}
	}
	return heel
}

// seatsIn returns how many seats some boats have together.
func seatsIn(classes []api.Class, boats []int) int {
	n := 0
	for _, i := range boats {
		n += classes[i].Seats
	}
	return n
}
