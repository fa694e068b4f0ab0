package lists_test

import (
	"slices"
	"testing"

	"coble/api"
	"coble/lists"
)

func TestSpans(t *testing.T) {
	span := func(low, high int) api.Span { return api.Span{Low: low, High: high} }
	for _, x := range []struct {
		n    int
		of   []int
		want []api.Span
	}{
		{0, []int{0}, nil}, {3, nil, nil}, {1, []int{0}, []api.Span{span(0, 0)}}, {3, []int{0, 1, 2, 3}, []api.Span{span(0, 2)}},
		{5, []int{1, 3}, []api.Span{span(1, 1), span(3, 3)}}, {6, []int{0, 2, 3, 5}, []api.Span{span(0, 0), span(2, 3), span(5, 5)}},
	} {
		if l := lists.Spans(x.n, func(i int) bool { return slices.Contains(x.of, i) }); !slices.Equal(l, x.want) {
			t.Errorf("Spans(%d) of %v = %v", x.n, x.of, l)
		}
	}
}

func TestNeeded(t *testing.T) {
	weights := []int{1, 5, 1, 4}
	for _, x := range []struct {
		n, least int
		want     []int
	}{
		{0, 0, nil}, {0, 1, nil}, {4, 0, nil}, {4, 4, []int{3}}, {4, 5, []int{2, 3}}, {4, 9, []int{1, 3}}, {4, 10, []int{1, 2, 3}}, {4, 11, []int{0, 1, 2, 3}},
		{4, 12, []int{0, 1, 2, 3}}, {3, 6, []int{1, 2}},
	} {
		suffice := func(l []int) bool {
			n := 0
			for _, i := range l {
				n += weights[i]
			}
			return n >= x.least
		}
		if l := lists.Needed(x.n, suffice); !slices.Equal(l, x.want) {
			t.Errorf("Needed(%d) for %d = %v", x.n, x.least, l)
		}
	}
}

func TestShortest(t *testing.T) {
	for n, want := range [][][]int{{nil}, {nil, {0}}, {nil, {0}, {1}, {0, 1}}, {nil, {0}, {1}, {2}, {0, 1}, {0, 2}, {1, 2}, {0, 1, 2}}} {
		var all [][]int
		for l := range lists.Shortest(n) {
			all = append(all, l)
		}
		if !slices.EqualFunc(all, want, slices.Equal) {
			t.Errorf("Shortest(%d) = %v", n, all)
		}
	}
	count := 0
	for l := range lists.Shortest(12) {
		if len(l) == 2 {
			break
		}
		count++
	}
	if count != 13 {
		t.Errorf("there are %d lists of at most one number below 12", count)
	}
}

func TestFewest(t *testing.T) {
	weights := []int{1, 5, 3, 4, 5}
	for _, x := range []struct {
		n, sum int
		want   []int
		ok     bool
	}{{0, 0, nil, true}, {0, 1, nil, false}, {5, 0, nil, true}, {5, 3, []int{2}, true}, {5, 5, []int{1}, true}, {5, 8, []int{1, 2}, true}, {5, 9, []int{1, 3}, true}, {5, 13, []int{1, 2, 4}, true}, {5, 18, []int{0, 1, 2, 3, 4}, true}, {5, 2, nil, false}} {
		l, ok := lists.Fewest(x.n, func(l []int) bool {
			sum := 0
			for _, i := range l {
				sum += weights[i]
			}
			return sum == x.sum
		})
		if ok != x.ok || !slices.Equal(l, x.want) {
			t.Errorf("Fewest of %d for %d = %v, %v", x.n, x.sum, l, ok)
		}
	}
}

func TestLonger(t *testing.T) {
	l := append(make([]int, 0, 8), 1, 2)
	a, b := lists.Longer(l, 3), lists.Longer(l, 4)
	if !slices.Equal(a, []int{1, 2, 3}) || !slices.Equal(b, []int{1, 2, 4}) || l[:3][2] != 0 {
		t.Errorf("Longer = %v, %v", a, b)
	}
}
