package checks_test

import (
	"math"
	"testing"

	"coble/api"
	"coble/checks"
)

func TestAll(t *testing.T) {
	for _, x := range []struct {
		l    []int
		want bool
	}{{nil, true}, {[]int{3}, true}, {[]int{3, 5}, true}, {[]int{2}, false}, {[]int{2, 5}, false}, {[]int{3, 6}, false}, {[]int{3, 6, 5}, false}} {
		if is := checks.All(x.l, checks.Between(3, 5)); is != x.want {
			t.Errorf("All(%v) = %v", x.l, is)
		}
	}
}

func TestBetween(t *testing.T) {
	for n, want := range map[int]bool{math.MinInt: false, -2: false, -1: true, 0: true, 2: true, 3: false, math.MaxInt: false} {
		if is := checks.Between(-1, 2)(n); is != want {
			t.Errorf("Between of %d = %v", n, is)
		}
	}
	if checks.Between(0, -1)(0) || checks.Between(0, -1)(-1) {
		t.Error("Between of nothing")
	}
}

func TestWithin(t *testing.T) {
	for s, want := range map[api.Span]bool{
		{Low: 1, High: 4}: true, {Low: 1, High: 1}: true, {Low: 4, High: 4}: true, {Low: 2, High: 3}: true,
		{Low: 0, High: 4}: false, {Low: 1, High: 5}: false, {Low: 3, High: 2}: false, {Low: 5, High: 5}: false, {Low: 0, High: 0}: false,
		{Low: math.MinInt, High: math.MaxInt}: false, {Low: math.MaxInt, High: math.MinInt}: false,
	} {
		if is := checks.Within(1, 4)(s); is != want {
			t.Errorf("Within of %v = %v", s, is)
		}
	}
}

func TestAscends(t *testing.T) {
	for _, x := range []struct {
		l    []int
		want bool
	}{
		{nil, true}, {[]int{-9}, true}, {[]int{1, 2, 9}, true}, {[]int{math.MinInt, math.MaxInt}, true},
		{[]int{1, 1}, false}, {[]int{2, 1}, false}, {[]int{1, 2, 2}, false}, {[]int{1, 3, 2}, false}, {[]int{3, 1, 2}, false},
	} {
		if is := checks.Ascends(x.l); is != x.want {
			t.Errorf("Ascends(%v) = %v", x.l, is)
		}
	}
}
