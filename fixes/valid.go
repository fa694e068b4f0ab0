package fixes

import (
	"coble/api"
	"coble/checks"
)

// isDistress reports whether a distress, whose chart is valid, is valid too.
func isDistress(d api.Distress) bool {
	s := search{Distress: d}
	return checks.Between(1, api.MaxDraught)(d.Draught) && checks.Between(0, api.MaxPace)(d.Pace) &&
		len(d.Reports) <= api.MaxReports && checks.All(d.Reports, s.isReport)
}

func (s search) isTick(tick int) bool { return checks.Between(0, s.lastTick())(tick) }

func (s search) isCell(cell int) bool { return checks.Between(0, len(s.Chart.Depth)-1)(cell) }

func (s search) isReport(r api.Report) bool {
	return s.isTick(r.Tick) && s.isCell(r.Cell) && hasWeight(r) && hasBounds(r)
}

func hasWeight(r api.Report) bool {
	if r.Sure {
		return r.Weight == 0
	}
	return checks.Between(1, api.MaxDoubt)(r.Weight)
}

// hasBounds reports whether a report has a kind, and says what one of this kind may say.
func hasBounds(r api.Report) bool {
	far := checks.Within(0, api.MaxFar)
	switch r.Kind {
	case api.Ring:
		return far(api.Span{Low: r.A, High: r.B}) && r.C == 0 && r.D == 0
	case api.Beam:
		return isBeam(r)
	case api.Strip:
		return far(api.Span{Low: r.A, High: r.B}) && far(api.Span{Low: r.C, High: r.D}) && r.Cell == 0
	case api.Clear:
		return checks.Between(0, api.MaxFar)(r.A) && r.B == 0 && r.C == 0 && r.D == 0
	}
	return false
}

// isBeam looks at the numbers first, so that their products are not too large. A direction that points nowhere has no
// turn to another one and points along none, so that it is never valid.
func isBeam(r api.Report) bool {
	if !checks.All([]int{r.A, r.B, r.C, r.D}, checks.Between(-api.MaxFar, api.MaxFar)) {
		return false
	}
	from, to := edges(r)
	return from.turn(to) > 0 || from.turn(to) == 0 && from.along(to) > 0
}
