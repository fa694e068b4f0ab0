package chart

import (
	"coble/api"
	"coble/checks"
)

// slip is a ramp on an open chart, with a boat of its draught.
type slip struct {
	boat
	api.Ramp
}

// hasRamp reports whether a ramp is valid for the chart.
func (s sea) hasRamp(r api.Ramp) bool {
	heights, surf := checks.Within(0, api.MaxTide), checks.Between(0, api.MaxSwell)
	return s.isCell(r.Cell) && isDraught(r.Draught) &&
		heights(api.Span{Low: r.Least, High: r.Most}) && surf(r.Surf)
}

// heights returns the heights of the tide with which the boat can be launched in a tick, if there are any: the boat may
// float only with some of those that the ramp allows.
func (l slip) heights(tick int) api.Span {
	afloat := l.Draught + l.Swell[tick] - l.Depth[l.Cell]
	return api.Span{Low: max(l.Least, afloat), High: l.Most}
}

func (l slip) surelyLaunches(tick int) bool {
	h, tide := l.heights(tick), l.Tide[tick]
	return l.Swell[tick] <= l.Surf && h.Low <= tide.Low && tide.High <= h.High
}

func (l slip) mayLaunch(tick int) bool {
	h, tide := l.heights(tick), l.Tide[tick]
	return l.Swell[tick] <= l.Surf && max(h.Low, tide.Low) <= min(h.High, tide.High)
}
