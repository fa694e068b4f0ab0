package crews_test

import (
	"slices"
	"testing"

	"coble/api"
)

// paged makes pages of the hand 0, one in each tick from 0 on, of some kinds.
func paged(kinds ...int) []api.Page {
	var l []api.Page
	for tick, kind := range kinds {
		l = append(l, page(tick, 0, kind))
	}
	return l
}

// TestAnswers is P7.3: the last page counts, and an answer does so only of a hand that has been called before.
func TestAnswers(t *testing.T) {
	const sent, heard, refused = api.Sent, api.Heard, api.Refused
	for _, x := range []struct {
		kinds []int
		want  int
	}{
		{nil, api.Silent}, {[]int{sent}, api.Silent}, {[]int{sent, sent}, api.Silent}, {[]int{heard}, api.Silent}, {[]int{refused}, api.Silent}, {[]int{heard, refused, heard}, api.Silent},
		{[]int{sent, heard}, api.Comes}, {[]int{sent, refused}, api.Stays}, {[]int{sent, heard, refused}, api.Stays}, {[]int{sent, refused, heard}, api.Comes},
		{[]int{sent, heard, sent}, api.Silent}, {[]int{sent, refused, sent}, api.Silent}, {[]int{sent, heard, sent, refused}, api.Stays}, {[]int{sent, sent, heard}, api.Comes},
		{[]int{heard, sent}, api.Silent}, {[]int{refused, sent}, api.Silent}, {[]int{heard, sent, refused}, api.Stays}, {[]int{refused, sent, heard}, api.Comes}, {[]int{heard, heard, sent}, api.Silent},
	} {
		l := paged(x.kinds...)
		for _, tick := range []int{len(l) - 1, len(l), 400} {
			if answers := mustAnswers(t, 2, l, tick); !slices.Equal(answers, []int{x.want, api.Silent}) {
				t.Errorf("Answers of %v at %d = %v", x.kinds, tick, answers)
			}
		}
	}
}

// TestAnswersAtTicks: pages of the tick itself count, later ones do not, also those of a call.
func TestAnswersAtTicks(t *testing.T) {
	l := []api.Page{page(-200, 0, api.Sent), page(-3, 0, api.Heard), page(2, 0, api.Refused), page(2, 0, api.Sent), page(2, 0, api.Heard), page(5, 0, api.Refused), page(400, 0, api.Heard)}
	for tick, want := range map[int]int{-200: 0, -4: 0, -3: 1, -2: 1, 0: 1, 1: 1, 2: 1, 4: 1, 5: 2, 399: 2, 400: 1} {
		if answers := mustAnswers(t, 1, l, tick); answers[0] != want {
			t.Errorf("the answer at %d is %d", tick, answers[0])
		}
	}
	l = []api.Page{page(1, 0, api.Heard), page(3, 0, api.Sent), page(4, 0, api.Heard)}
	for tick, want := range map[int]int{0: 0, 1: 0, 2: 0, 3: 0, 4: 1} {
		if answers := mustAnswers(t, 1, l, tick); answers[0] != want {
			t.Errorf("the answer at %d before a call at 3 is %d", tick, answers[0])
		}
	}
	// In one tick the pages come one after the other.
	for _, x := range []struct {
		l    []api.Page
		want int
	}{{[]api.Page{page(1, 0, api.Sent), page(1, 0, api.Heard)}, 1}, {[]api.Page{page(1, 0, api.Heard), page(1, 0, api.Sent)}, 0}} {
		if answers := mustAnswers(t, 1, x.l, 1); answers[0] != x.want {
			t.Errorf("the answer after %v is %d", x.l, answers[0])
		}
	}
}

// TestAgain is P7.4: who is silent is paged, unless there was a page at this tick or not long before it.
func TestAgain(t *testing.T) {
	l := []api.Page{page(3, 0, api.Sent), page(3, 1, api.Sent), page(3, 2, api.Sent), page(4, 1, api.Heard), page(4, 2, api.Refused), page(4, 3, api.Heard)}
	for _, x := range []struct {
		tick, every int
		want        []int
	}{
		{2, 1, []int{0, 1, 2, 3}}, {2, 100, []int{0, 1, 2, 3}}, {3, 1, []int{3}}, {3, 100, []int{3}}, {4, 1, []int{0, 3}}, {4, 2, []int{3}}, {5, 2, []int{0, 3}}, {5, 3, []int{3}}, {102, 99, []int{0, 3}}, {102, 100, []int{3}}, {103, 100, []int{0, 3}},
	} {
		if again := mustAgain(t, 4, l, x.tick, x.every); !slices.Equal(again, x.want) {
			t.Errorf("Again at %d every %d = %v", x.tick, x.every, again)
		}
	}
	// A hand that was sent two pages is paged after the later one; a page that is sent later does not count.
	l = []api.Page{page(0, 0, api.Sent), page(5, 0, api.Sent), page(9, 0, api.Sent)}
	for tick, want := range map[int]bool{-1: true, 0: false, 2: false, 3: true, 4: true, 5: false, 7: false, 8: true, 9: false, 11: false, 12: true} {
		if again := mustAgain(t, 1, l, tick, 3); slices.Equal(again, []int{0}) != want {
			t.Errorf("Again at %d = %v", tick, again)
		}
	}
	if again := mustAgain(t, 10, nil, -200, 1); len(again) != 10 || !slices.IsSorted(again) {
		t.Errorf("Again without pages = %v", again)
	}
	// Who has answered before the call is silent; what they told is no page that was sent.
	l = []api.Page{page(1, 0, api.Heard), page(1, 1, api.Refused), page(2, 0, api.Heard)}
	if again := mustAgain(t, 2, l, 2, 5); !slices.Equal(again, []int{0, 1}) {
		t.Errorf("Again of who was not called = %v", again)
	}
}

// TestCurrent is P7.5: a skill is current from the tick of its drill on, for fewer ticks than it is good for.
func TestCurrent(t *testing.T) {
	good := []int{0, 1, 2, 5, 400, 10, 10, 100}
	for skill, n := range good {
		l := []api.Drill{drill(0, 1, skill)}
		for _, tick := range []int{-200, -1, 0, n - 2, n - 1, n, n + 1, 400} {
			if tick > 400 {
				continue
			}
			want := 0
			if 0 <= tick && tick < n {
				want = 1 << skill
			}
			if sets := mustCurrent(t, 3, l, good, tick); !slices.Equal(sets, []int{0, want, 0}) {
				t.Errorf("Current of the skill %d at %d = %v", skill, tick, sets)
			}
		}
	}
}

// TestCurrentOfManyDrills: each drill counts on its own, also if a later one of the same skill is too late.
func TestCurrentOfManyDrills(t *testing.T) {
	l := []api.Drill{drill(-200, 1, 0), drill(0, 0, 7), drill(2, 0, 0), drill(2, 0, 0), drill(4, 1, 3), drill(6, 0, 0), drill(9, 1, 3)}
	good := []int{3, 9, 9, 2, 9, 9, 9, 10}
	for tick, want := range map[int][]int{-200: {0, 1}, -198: {0, 1}, -197: {0, 0}, -1: {0, 0}, 0: {128, 0}, 2: {129, 0}, 4: {129, 8}, 5: {128, 8}, 6: {129, 0}, 8: {129, 0}, 9: {128, 8}, 10: {0, 8}, 11: {0, 0}} {
		if sets := mustCurrent(t, 2, l, good, tick); !slices.Equal(sets, want) {
			t.Errorf("Current at %d = %v, not %v", tick, sets, want)
		}
	}
	if sets := mustCurrent(t, 10, nil, eight(400), 0); slices.Max(sets) != 0 {
		t.Errorf("Current without drills = %v", sets)
	}
}

// TestPagesOneByOne holds Answers, Again and Current against what the chapter tells of one hand after the other.
func TestPagesOneByOne(t *testing.T) {
	answered, again, current := map[int]int{}, 0, 0
	for _, x := range stories(3, 3000) {
		answers := mustAnswers(t, x.hands, x.pages, x.tick)
		for hand, answer := range answers {
			if want := x.byAnswer(hand); answer != want {
				t.Fatalf("Answers of %v = %v, not %d of %d", x, answers, want, hand)
			}
			answered[answer]++
		}
		if l, want := mustAgain(t, x.hands, x.pages, x.tick, x.every), x.byAgain(); !slices.Equal(l, want) {
			t.Fatalf("Again of %v = %v, not %v", x, l, want)
		} else if len(l) > 0 && len(l) < x.hands {
			again++
		}
		if l, want := mustCurrent(t, x.hands, x.drills, x.good, x.tick), x.byCurrent(); !slices.Equal(l, want) {
			t.Fatalf("Current of %v = %v, not %v", x, l, want)
		} else if slices.Max(l) > 0 {
			current++
		}
	}
	if answered[api.Comes] < 300 || answered[api.Stays] < 300 || again < 500 || current < 500 {
		t.Errorf("the stories are too much alike: %v, %d, %d", answered, again, current)
	}
}

// TestToldOnceMore is P7.14: an answer that is told once more changes nothing; who is sent a page again is silent.
func TestToldOnceMore(t *testing.T) {
	for _, x := range stories(14, 1000) {
		want := mustAnswers(t, x.hands, x.pages, 400)
		at := 0
		if len(x.pages) > 0 {
			at = x.pages[len(x.pages)-1].Tick
		}
		for hand, answer := range want {
			if kind := map[int]int{api.Comes: api.Heard, api.Stays: api.Refused}[answer]; kind > 0 {
				if l := mustAnswers(t, x.hands, append(slices.Clone(x.pages), page(at, hand, kind)), 400); !slices.Equal(l, want) {
					t.Errorf("%v, but %v if %d is told once more", want, l, hand)
				}
			}
			silent := slices.Clone(want)
			silent[hand] = api.Silent
			l := append(slices.Clone(x.pages), page(at, hand, api.Sent))
			if answers := mustAnswers(t, x.hands, l, 400); !slices.Equal(answers, silent) {
				t.Errorf("%v, but %v if %d is sent a page", want, answers, hand)
			}
			for kind, answer := range map[int]int{api.Heard: api.Comes, api.Refused: api.Stays} {
				silent[hand] = answer
				if answers := mustAnswers(t, x.hands, append(slices.Clone(l), page(at, hand, kind)), 400); !slices.Equal(answers, silent) {
					t.Errorf("%v, but %v if %d is sent a page, and answers", want, answers, hand)
				}
			}
		}
	}
}

// TestPagesOfOthers is P7.14: pages, and drills, of one hand do not change what is told of another one.
func TestPagesOfOthers(t *testing.T) {
	for _, x := range stories(15, 1000) {
		answers, again, current := mustAnswers(t, x.hands, x.pages, x.tick), mustAgain(t, x.hands, x.pages, x.tick, x.every), mustCurrent(t, x.hands, x.drills, x.good, x.tick)
		for hand := range x.hands {
			var l []api.Page
			for _, p := range x.pages {
				if p.Hand == hand {
					l = append(l, p)
				}
			}
			var d []api.Drill
			for _, k := range x.drills {
				if k.Hand == hand {
					d = append(d, k)
				}
			}
			if a := mustAnswers(t, x.hands, l, x.tick)[hand]; a != answers[hand] {
				t.Errorf("%v, but %d of %d alone", answers, a, hand)
			}
			if a := mustAgain(t, x.hands, l, x.tick, x.every); slices.Contains(a, hand) != slices.Contains(again, hand) {
				t.Errorf("%v, but %v of %d alone", again, a, hand)
			}
			if c := mustCurrent(t, x.hands, d, x.good, x.tick)[hand]; c != current[hand] {
				t.Errorf("%v, but %d of %d alone", current, c, hand)
			}
		}
	}
}
