package tests

import (
	"slices"
	"testing"

	"loop.example/dataflow/impl"
)

func TestLimitsOfFrontiers(t *testing.T) {
	if impl.MaxFrontier != 100 || impl.MaxUpdates != 400 {
		t.Errorf("MaxFrontier = %d, MaxUpdates = %d", impl.MaxFrontier, impl.MaxUpdates)
	}
	longest := longestFrontier()
	if len(longest) != impl.MaxFrontier || !impl.ValidFrontier(longest) {
		t.Errorf("ValidFrontier of %d elements = false", len(longest))
	}
	expectBool(t, "ValidFrontier(nil)", impl.ValidFrontier(nil), true)
	expectBool(t, "ValidFrontier of no times", impl.ValidFrontier([]impl.Time{}), true)
	for name, f := range invalidFrontiers() {
		expectBool(t, "ValidFrontier: "+name, impl.ValidFrontier(f), false)
	}
}

// Every list of at most three times is a frontier exactly if the definition says so.
func TestValidFrontierIsTheDefinition(t *testing.T) {
	times := grid(0, 2)
	lists := [][]impl.Time{{}}
	for start, length := 0, 0; length < 3; length++ {
		end := len(lists)
		for _, list := range lists[start:end] {
			for _, time := range times {
				lists = append(lists, append(slices.Clone(list), time))
			}
		}
		start = end
	}
	frontiers := 0
	for _, list := range lists {
		want := true
		for i, a := range list {
			for j, b := range list {
				want = want && (i == j || !below(a, b)) && (i >= j || impl.TimeBefore(a, b))
			}
		}
		if want {
			frontiers++
		}
		if impl.ValidFrontier(list) != want {
			t.Errorf("ValidFrontier(%v) = %v", list, !want)
		}
	}
	if frontiers != 20 {
		t.Errorf("%d frontiers of nine times, want 20", frontiers)
	}
}

func TestP14TheMinimalTimesCoverTheSameTimes(t *testing.T) {
	r := newRandom()
	for range 400 {
		var list []impl.Time
		for range r.IntN(12) {
			list = append(list, at(between(r, 0, 5), between(r, 0, 5)))
		}
		f := impl.MinimalTimes(list)
		if !impl.ValidFrontier(f) {
			t.Fatalf("MinimalTimes(%v) = %v", list, f)
		}
		for _, e := range f {
			if !slices.Contains(list, e) {
				t.Errorf("MinimalTimes(%v) has %v", list, e)
			}
		}
		for _, time := range grid(0, 6) {
			if impl.FrontierCovers(f, time) != covered(list, time) {
				t.Errorf("MinimalTimes(%v) = %v, but at %v", list, f, time)
			}
		}
	}
}

func TestP14MinimalTimesAtItsEdges(t *testing.T) {
	cases := []struct {
		name string
		list []impl.Time
		want []impl.Time
	}{
		{"nothing", nil, nil},
		{"one time", []impl.Time{at(3, 4)}, []impl.Time{at(3, 4)}},
		{"a time twice", []impl.Time{at(3, 4), at(3, 4)}, []impl.Time{at(3, 4)}},
		{"descending", []impl.Time{at(2, 0), at(1, 1), at(0, 2)}, []impl.Time{at(0, 2), at(1, 1), at(2, 0)}},
		{"the last one is at most all", []impl.Time{at(2, 1), at(1, 2), at(3, 3), at(1, 1)}, []impl.Time{at(1, 1)}},
		{"same epoch", []impl.Time{at(2, 3), at(2, 1), at(2, 2)}, []impl.Time{at(2, 1)}},
		{"same round", []impl.Time{at(3, 2), at(1, 2), at(2, 2)}, []impl.Time{at(1, 2)}},
		{"extreme times", []impl.Time{at(impl.MaxTime, 0), at(impl.MaxTime, impl.MaxTime), at(0, impl.MaxTime)}, []impl.Time{at(0, impl.MaxTime), at(impl.MaxTime, 0)}},
	}
	for _, c := range cases {
		expectTimes(t, "MinimalTimes: "+c.name, impl.MinimalTimes(c.list), c.want)
	}
	for _, invalid := range invalidTimes() {
		expectTimes(t, "MinimalTimes with an invalid time", impl.MinimalTimes([]impl.Time{at(5, 5), invalid, at(6, 6)}), nil)
		expectTimes(t, "MinimalTimes of an invalid time", impl.MinimalTimes([]impl.Time{invalid}), nil)
	}
}

func TestP14MinimalTimesLimitsTheTimes(t *testing.T) {
	longest := longestFrontier()
	list := slices.Concat(longest, longest, longest, longest)
	newRandom().Shuffle(len(list), func(i int, j int) { list[i], list[j] = list[j], list[i] })
	if len(list) != impl.MaxUpdates {
		t.Fatalf("%d times", len(list))
	}
	expectTimes(t, "MinimalTimes of MaxUpdates times", impl.MinimalTimes(list), longest)
	expectTimes(t, "MinimalTimes of one time more", impl.MinimalTimes(append(list, list[0])), nil)
	equal := slices.Repeat([]impl.Time{at(1, 1)}, impl.MaxUpdates)
	expectTimes(t, "MinimalTimes of MaxUpdates equal times", impl.MinimalTimes(equal), equal[:1])
	expectTimes(t, "MinimalTimes of one equal time more", impl.MinimalTimes(append(equal, at(1, 1))), nil)
}

func TestP15FrontiersAreOrderedByWhatTheyCover(t *testing.T) {
	for _, low := range []int{0, impl.MaxTime - 3} {
		times := grid(low, low+3)
		frontiers := frontiersOf(times)
		if len(frontiers) != 70 {
			t.Fatalf("%d frontiers", len(frontiers))
		}
		for _, f := range frontiers {
			for _, time := range times {
				if impl.FrontierCovers(f, time) != covered(f, time) {
					t.Errorf("FrontierCovers(%v, %v) = %v", f, time, !covered(f, time))
				}
			}
			for _, g := range frontiers {
				want := !slices.ContainsFunc(times, func(time impl.Time) bool { return covered(g, time) && !covered(f, time) })
				if impl.FrontierLessEqual(f, g) != want {
					t.Errorf("FrontierLessEqual(%v, %v) = %v", f, g, !want)
				}
				if !slices.Equal(f, g) && impl.FrontierLessEqual(f, g) && impl.FrontierLessEqual(g, f) {
					t.Errorf("%v and %v are at most each other", f, g)
				}
			}
		}
	}
}

func TestP15TheEmptyFrontierIsTheLargest(t *testing.T) {
	f := []impl.Time{at(1, 2), at(3, 0)}
	expectBool(t, "FrontierLessEqual(nil, nil)", impl.FrontierLessEqual(nil, nil), true)
	expectBool(t, "FrontierLessEqual(f, nil)", impl.FrontierLessEqual(f, nil), true)
	expectBool(t, "FrontierLessEqual(nil, f)", impl.FrontierLessEqual(nil, f), false)
	expectBool(t, "FrontierLessEqual(f, f)", impl.FrontierLessEqual(f, f), true)
	expectBool(t, "FrontierCovers(nil, t)", impl.FrontierCovers(nil, at(impl.MaxTime, impl.MaxTime)), false)
	longest := longestFrontier()
	expectBool(t, "FrontierLessEqual of the longest", impl.FrontierLessEqual(longest, longest), true)
	expectBool(t, "FrontierCovers of the longest", impl.FrontierCovers(longest, at(impl.MaxTime, 0)), true)
	expectBool(t, "FrontierCovers of the longest", impl.FrontierCovers(longest, at(impl.MaxTime-1, 0)), false)
}

func TestP15InvalidArguments(t *testing.T) {
	least := []impl.Time{{}}
	for name, f := range invalidFrontiers() {
		expectBool(t, "FrontierCovers: "+name, impl.FrontierCovers(f, at(impl.MaxTime, impl.MaxTime)), false)
		expectBool(t, "FrontierLessEqual on the left: "+name, impl.FrontierLessEqual(f, []impl.Time{at(impl.MaxTime, impl.MaxTime)}), false)
		expectBool(t, "FrontierLessEqual of nothing: "+name, impl.FrontierLessEqual(f, nil), false)
		expectBool(t, "FrontierLessEqual on the right: "+name, impl.FrontierLessEqual(least, f), false)
		expectBool(t, "FrontierLessEqual of itself: "+name, impl.FrontierLessEqual(f, f), false)
	}
	for _, invalid := range invalidTimes() {
		expectBool(t, "FrontierCovers of an invalid time", impl.FrontierCovers(least, invalid), false)
	}
}

func TestP16TheJoinCoversWhatBothCover(t *testing.T) {
	for _, low := range []int{0, impl.MaxTime - 3} {
		times := grid(low, low+3)
		frontiers := frontiersOf(times)
		for _, f := range frontiers {
			for _, g := range frontiers {
				join := impl.FrontierJoin(f, g)
				if !impl.ValidFrontier(join) || !slices.Equal(join, impl.FrontierJoin(g, f)) {
					t.Fatalf("FrontierJoin(%v, %v) = %v", f, g, join)
				}
				if !impl.FrontierLessEqual(f, join) || !impl.FrontierLessEqual(g, join) {
					t.Fatalf("FrontierJoin(%v, %v) = %v is not at least both", f, g, join)
				}
				for _, time := range times {
					if covered(join, time) != (covered(f, time) && covered(g, time)) {
						t.Fatalf("FrontierJoin(%v, %v) = %v at %v", f, g, join, time)
					}
				}
			}
		}
	}
}

func TestP17TheMeetCoversWhatOneOfBothCovers(t *testing.T) {
	for _, low := range []int{0, impl.MaxTime - 3} {
		times := grid(low, low+3)
		frontiers := frontiersOf(times)
		for _, f := range frontiers {
			for _, g := range frontiers {
				meet := impl.FrontierMeet(f, g)
				if !impl.ValidFrontier(meet) || !slices.Equal(meet, impl.FrontierMeet(g, f)) {
					t.Fatalf("FrontierMeet(%v, %v) = %v", f, g, meet)
				}
				if !impl.FrontierLessEqual(meet, f) || !impl.FrontierLessEqual(meet, g) {
					t.Fatalf("FrontierMeet(%v, %v) = %v is not at most both", f, g, meet)
				}
				for _, time := range times {
					if covered(meet, time) != (covered(f, time) || covered(g, time)) {
						t.Fatalf("FrontierMeet(%v, %v) = %v at %v", f, g, meet, time)
					}
				}
			}
		}
	}
}

func TestP16P17JoinAndMeetAtTheirEdges(t *testing.T) {
	f := []impl.Time{at(1, 2), at(3, 0)}
	g := []impl.Time{at(0, 5), at(2, 1)}
	expectTimes(t, "FrontierJoin", impl.FrontierJoin(f, g), []impl.Time{at(1, 5), at(2, 2), at(3, 1)})
	expectTimes(t, "FrontierMeet", impl.FrontierMeet(f, g), []impl.Time{at(0, 5), at(1, 2), at(2, 1), at(3, 0)})
	expectTimes(t, "FrontierJoin(f, nil)", impl.FrontierJoin(f, nil), nil)
	expectTimes(t, "FrontierJoin(nil, f)", impl.FrontierJoin(nil, f), nil)
	expectTimes(t, "FrontierMeet(f, nil)", impl.FrontierMeet(f, nil), f)
	expectTimes(t, "FrontierMeet(nil, f)", impl.FrontierMeet(nil, f), f)
	expectTimes(t, "FrontierJoin(nil, nil)", impl.FrontierJoin(nil, nil), nil)
	expectTimes(t, "FrontierMeet(nil, nil)", impl.FrontierMeet(nil, nil), nil)
	longest := longestFrontier()
	expectTimes(t, "FrontierJoin of the longest", impl.FrontierJoin(longest, longest), longest)
	expectTimes(t, "FrontierMeet of the longest", impl.FrontierMeet(longest, longest), longest)
	// The longest frontiers have more pairs than MinimalTimes accepts.
	later := slices.Clone(longest[1:])
	for i := range later {
		later[i].Round++
	}
	expectTimes(t, "FrontierJoin of two long frontiers", impl.FrontierJoin(later, longest), later)
	expectTimes(t, "FrontierMeet of two long frontiers", impl.FrontierMeet(later, longest), longest)
}

func TestP16P17InvalidArguments(t *testing.T) {
	least := []impl.Time{{}}
	for name, f := range invalidFrontiers() {
		expectTimes(t, "FrontierJoin on the left: "+name, impl.FrontierJoin(f, least), nil)
		expectTimes(t, "FrontierJoin on the right: "+name, impl.FrontierJoin(least, f), nil)
		expectTimes(t, "FrontierMeet on the left: "+name, impl.FrontierMeet(f, least), nil)
		expectTimes(t, "FrontierMeet on the right: "+name, impl.FrontierMeet(least, f), nil)
		expectTimes(t, "FrontierMeet of nothing: "+name, impl.FrontierMeet(f, nil), nil)
		expectTimes(t, "FrontierMeet with nothing: "+name, impl.FrontierMeet(nil, f), nil)
	}
}

func TestP18AdvancedTimesCannotBeDistinguished(t *testing.T) {
	for _, low := range []int{0, impl.MaxTime - 3} {
		times := grid(low, low+3)
		for _, f := range frontiersOf(times) {
			for _, time := range times {
				advanced := impl.AdvanceTime(time, f)
				if len(f) == 0 && advanced != time {
					t.Errorf("AdvanceTime(%v, %v) = %v", time, f, advanced)
				}
				for _, reader := range times {
					if covered(f, reader) && below(time, reader) != below(advanced, reader) {
						t.Fatalf("AdvanceTime(%v, %v) = %v, but %v distinguishes them", time, f, advanced, reader)
					}
				}
			}
		}
	}
}

func TestP18AdvanceTimeIsTheMeetOfTheJoins(t *testing.T) {
	f := []impl.Time{at(1, 6), at(3, 4), at(5, 2)}
	cases := []struct{ time, want impl.Time }{
		{at(0, 0), at(1, 2)},
		{at(2, 3), at(2, 3)},
		{at(2, 0), at(2, 2)},
		{at(0, 9), at(1, 9)},
		{at(9, 0), at(9, 2)},
		{at(4, 5), at(4, 5)},
		{at(0, 5), at(1, 5)},
	}
	for _, c := range cases {
		if got := impl.AdvanceTime(c.time, f); got != c.want {
			t.Errorf("AdvanceTime(%v, %v) = %v, want %v", c.time, f, got, c.want)
		}
	}
	if got := impl.AdvanceTime(at(2, 7), []impl.Time{at(3, 4)}); got != at(3, 7) {
		t.Errorf("AdvanceTime for one element = %v", got)
	}
	if got := impl.AdvanceTime(at(0, 0), longestFrontier()[10:20]); got != at(10, 80) {
		t.Errorf("AdvanceTime for a long frontier = %v", got)
	}
}

func TestP18InvalidArguments(t *testing.T) {
	f := []impl.Time{at(1, 6), at(3, 4)}
	for _, invalid := range invalidTimes() {
		if got := impl.AdvanceTime(invalid, f); got != invalid {
			t.Errorf("AdvanceTime(%v, %v) = %v", invalid, f, got)
		}
		if got := impl.AdvanceTime(invalid, nil); got != invalid {
			t.Errorf("AdvanceTime(%v, nil) = %v", invalid, got)
		}
	}
	for name, list := range invalidFrontiers() {
		if got := impl.AdvanceTime(at(0, 0), list); got != at(0, 0) {
			t.Errorf("AdvanceTime: %s = %v", name, got)
		}
	}
}

func TestFrontierFunctionsReturnNewMemory(t *testing.T) {
	f := []impl.Time{at(1, 2), at(3, 0)}
	g := []impl.Time{at(0, 5), at(2, 1)}
	mixed := []impl.Time{at(3, 3), at(2, 1), at(0, 5), at(1, 1), at(0, 5)}
	expectFresh(t, "MinimalTimes", impl.MinimalTimes, mixed)
	expectFresh(t, "MinimalTimes of a frontier", impl.MinimalTimes, f)
	expectFresh(t, "FrontierJoin", impl.FrontierJoin, f, g)
	expectFresh(t, "FrontierJoin of the same", impl.FrontierJoin, f, f)
	expectFresh(t, "FrontierMeet", impl.FrontierMeet, f, g)
	expectFresh(t, "FrontierMeet of nothing", impl.FrontierMeet, f, nil)
	expectFresh(t, "FrontierMeet with nothing", impl.FrontierMeet, nil, f)
}
