package lists_test

import (
	"slices"
	"testing"

	"coble/api"
	"coble/lists"
)

func TestSpans(t *testing.T) {
	span := func(low, high int) api.Span { return api.Span{Low: low, High: high} }
	for _, x := range []struct {
		n    int
		of   []int
		want []api.Span
	}{
		{0, []int{0}, nil}, {3, nil, nil}, {1, []int{0}, []api.Span{span(0, 0)}}, {3, []int{0, 1, 2, 3}, []api.Span{span(0, 2)}},
		{5, []int{1, 3}, []api.Span{span(1, 1), span(3, 3)}}, {6, []int{0, 2, 3, 5}, []api.Span{span(0, 0), span(2, 3), span(5, 5)}},
	} {
		if l := lists.Spans(x.n, func(i int) bool { return slices.Contains(x.of, i) }); !slices.Equal(l, x.want) {
			t.Errorf("Spans(%d) of %v = %v", x.n, x.of, l)
		}
	}
}

func TestNeeded(t *testing.T) {
	weights := []int{1, 5, 1, 4}
	for _, x := range []struct {
		n, least int
		want     []int
	}{
		{0, 0, nil}, {0, 1, nil}, {4, 0, nil}, {4, 4, []int{3}}, {4, 5, []int{2, 3}}, {4, 9, []int{1, 3}}, {4, 10, []int{1, 2, 3}}, {4, 11, []int{0, 1, 2, 3}},
		{4, 12, []int{0, 1, 2, 3}}, {3, 6, []int{1, 2}},
	} {
		suffice := func(l []int) bool {
			n := 0
			for _, i := range l {
				n += weights[i]
			}
			return n >= x.least
		}
		if l := lists.Needed(x.n, suffice); !slices.Equal(l, x.want) {
			t.Errorf("Needed(%d) for %d = %v", x.n, x.least, l)
		}
	}
}
