package tests

import (
	"fmt"
	"math/rand/v2"
	"slices"
	"testing"

	"loop.example/dataflow/impl"
)

func view(since []impl.Time, upper []impl.Time, list ...impl.Update) impl.View {
	return impl.View{Since: since, Upper: upper, Trace: list}
}

// isViewByDefinition is the reference for ValidView, for frontiers and a trace.
func isViewByDefinition(v impl.View) bool {
	return isAtMost(v.Since, v.Upper) && !slices.ContainsFunc(v.Trace, func(u impl.Update) bool { return covered(v.Upper, u.Time) })
}

func sameView(a impl.View, b impl.View) bool {
	return slices.Equal(a.Since, b.Since) && slices.Equal(a.Upper, b.Upper) && slices.EqualFunc(a.Trace, b.Trace, sameUpdate)
}

func expectView(t *testing.T, what string, got impl.View, ok bool, want impl.View) {
	t.Helper()
	if !ok || !sameView(got, want) || !impl.ValidView(got) {
		t.Errorf("%s = %v, %v, want %v", what, got, ok, want)
	}
}

// expectNoView expects the zero View and false.
func expectNoView(t *testing.T, what string, got impl.View, ok bool) {
	t.Helper()
	if ok || got.Since != nil || got.Upper != nil || got.Trace != nil {
		t.Errorf("%s = %v, %v", what, got, ok)
	}
}

func expectAppended(t *testing.T, what string, v impl.View, tr []impl.Update, upper []impl.Time, want impl.View) {
	t.Helper()
	got, ok := impl.AppendView(v, tr, upper)
	expectView(t, fmt.Sprintf("AppendView(%v, %v, %v): %s", v, tr, upper, what), got, ok, want)
}

func expectNotAppended(t *testing.T, what string, v impl.View, tr []impl.Update, upper []impl.Time) {
	t.Helper()
	got, ok := impl.AppendView(v, tr, upper)
	expectNoView(t, fmt.Sprintf("AppendView(%v, %v, %v): %s", v, tr, upper, what), got, ok)
}

func expectCompacted(t *testing.T, what string, v impl.View, since []impl.Time, want impl.View) {
	t.Helper()
	got, ok := impl.CompactView(v, since)
	expectView(t, fmt.Sprintf("CompactView(%v, %v): %s", v, since, what), got, ok, want)
}

func expectNotCompacted(t *testing.T, what string, v impl.View, since []impl.Time) {
	t.Helper()
	got, ok := impl.CompactView(v, since)
	expectNoView(t, fmt.Sprintf("CompactView(%v, %v): %s", v, since, what), got, ok)
}

// expectViewRead expects a code, and an empty Z-set if the code is not 1.
func expectViewRead(t *testing.T, what string, v impl.View, time impl.Time, want []impl.Entry, code int) {
	t.Helper()
	z, got := impl.ReadView(v, time)
	if got != code || !sameZSet(z, want) {
		t.Errorf("ReadView(%v, %v): %s = %v, %d, want %v, %d", v, time, what, z, got, want, code)
	}
}

// readByDefinition is the reference for ReadView, for a valid view.
func readByDefinition(v impl.View, time impl.Time) ([]impl.Entry, int) {
	switch {
	case !covered(v.Since, time):
		return nil, 2
	case covered(v.Upper, time):
		return nil, 3
	}
	return accumulated(v.Trace, time), 1
}

// compactedByDefinition is the reference for CompactView, for a valid view and frontiers in ascending order.
// It reports whether the result is valid.
func compactedByDefinition(v impl.View, since []impl.Time) (impl.View, bool) {
	var list []impl.Update
	for _, u := range v.Trace {
		list = append(list, update(u.Weight, impl.AdvanceTime(u.Time, since), u.Row...))
	}
	compacted := view(since, v.Upper, consolidated(list)...)
	return compacted, isViewByDefinition(compacted)
}

// viewTimes are the times that random views are read at.
func viewTimes() []impl.Time {
	return append(grid(0, 7), at(0, impl.MaxTime), at(impl.MaxTime, 0), at(impl.MaxTime, impl.MaxTime))
}

// randomView returns a valid view. Its updates may be at times that Since does not cover.
func randomView(r *rand.Rand) impl.View {
	chain := randomChain(r, 5)
	since := r.IntN(len(chain))
	upper := between(r, since, len(chain)-1)
	tr := randomTrace(r, between(r, 1, 3))
	return view(chain[since], chain[upper], slices.DeleteFunc(tr, func(u impl.Update) bool { return covered(chain[upper], u.Time) })...)
}

// randomFurther returns an upper bound that is at least that of a view, and updates between both.
func randomFurther(r *rand.Rand, v impl.View) ([]impl.Update, []impl.Time) {
	upper := laterFrontier(r, v.Upper)
	switch r.IntN(6) {
	case 0:
		upper = v.Upper
	case 1, 2:
		upper = impl.FrontierJoin(v.Upper, randomFrontier(r))
	}
	width := 1 + r.IntN(3)
	if len(v.Trace) > 0 {
		width = len(v.Trace[0].Row)
	}
	return updatesBetween(randomTrace(r, width), v.Upper, upper), upper
}

// invalidViews has a view for each way not to be one.
func invalidViews() map[string]impl.View {
	least, later := frontier(at(0, 0)), frontier(at(1, 1))
	one := update(1, at(0, 0), 2)
	list := map[string]impl.View{
		"bounds exchanged":           view(later, least),
		"bounds not comparable":      view(frontier(at(0, 1)), frontier(at(1, 0))),
		"no since":                   view(nil, later),
		"an update that is late":     view(least, later, update(1, at(1, 1), 2)),
		"an update that is too late": view(least, later, one, update(1, at(4, 4), 3)),
		"all times are late":         view(least, least, one),
	}
	for name, f := range invalidFrontiers() {
		list["since: "+name] = view(f, nil)
		list["upper: "+name] = view(least, f)
		list["both: "+name] = view(f, f)
	}
	for name, tr := range invalidTraces() {
		list["trace: "+name] = view(least, nil, tr...)
		list["trace without times to read: "+name] = view(nil, nil, tr...)
	}
	return list
}

func TestCodesOfReading(t *testing.T) {
	if impl.ReadInvalid != 0 || impl.ReadOk != 1 || impl.ReadEarly != 2 || impl.ReadLate != 3 {
		t.Error("codes of reading a view")
	}
}

func TestP106ValidViewIsTheDefinition(t *testing.T) {
	times := grid(0, 2)
	for _, since := range frontiersOf(times) {
		for _, upper := range frontiersOf(times) {
			empty := view(since, upper)
			expectBool(t, fmt.Sprint("ValidView ", empty), impl.ValidView(empty), isAtMost(since, upper))
			for _, time := range times {
				v := view(since, upper, update(1, at(0, 0), 3), update(1, time, 4))
				expectBool(t, fmt.Sprint("ValidView ", v), impl.ValidView(v), isViewByDefinition(v))
				v.Trace = v.Trace[1:]
				expectBool(t, fmt.Sprint("ValidView ", v), impl.ValidView(v), isViewByDefinition(v))
			}
		}
	}
	expectBool(t, "ValidView of the zero view", impl.ValidView(impl.View{}), true)
	longest := longestFrontier()
	expectBool(t, "ValidView of the longest frontiers", impl.ValidView(view(longest, longest)), true)
	most := moved(numbered(1, impl.MaxUpdates, 1), at(impl.MaxTime, impl.MaxTime))
	expectBool(t, "ValidView of the most updates", impl.ValidView(view(longest, nil, most...)), true)
	early := update(1, at(0, 0), 3)
	expectBool(t, "ValidView of an update before since", impl.ValidView(view(frontier(at(1, 1)), frontier(at(2, 2)), early)), true)
	expectBool(t, "ValidView of an update without times to read", impl.ValidView(view(nil, nil, early)), true)
	for name, v := range invalidViews() {
		expectBool(t, "ValidView: "+name, impl.ValidView(v), false)
	}
}

func TestP106ViewsCanBeReadBetweenTheirFrontiers(t *testing.T) {
	r := newRandom()
	counts := map[int]int{}
	notEmpty := 0
	for range 2000 {
		v := randomView(r)
		for _, time := range viewTimes() {
			want, code := readByDefinition(v, time)
			expectViewRead(t, "random", v, time, want, code)
			if code == impl.ReadOk {
				expectZSet(t, "AsOf", impl.AsOf(v.Trace, time), want)
			}
			counts[code]++
			if len(want) > 0 {
				notEmpty++
			}
		}
	}
	if counts[1] < 5000 || counts[2] < 5000 || counts[3] < 5000 || notEmpty < 5000 {
		t.Errorf("reads by codes: %v, %d have entries", counts, notEmpty)
	}
}

func TestP106EveryPairOfSmallFrontiers(t *testing.T) {
	times := grid(0, 2)
	for _, since := range frontiersOf(times) {
		for _, upper := range frontiersOf(times) {
			v := view(since, upper)
			for _, time := range times {
				if !covered(upper, time) {
					v.Trace = append(v.Trace, update(1, time, 5))
				}
			}
			for _, time := range times {
				want, code := readByDefinition(v, time)
				if !isAtMost(since, upper) {
					want, code = nil, impl.ReadInvalid
				}
				expectViewRead(t, "small", v, time, want, code)
			}
		}
	}
}

func TestP106GivenReads(t *testing.T) {
	v := view(frontier(at(1, 0)), frontier(at(2, 3), at(3, 1)), update(2, at(0, 0), 1, 5), update(-1, at(1, 0), 1, 5), update(-1, at(2, 1), 1, 5), update(4, at(2, 2), 3, 3))
	expectViewRead(t, "before since", v, at(0, 0), nil, impl.ReadEarly)
	expectViewRead(t, "before since in a late round", v, at(0, impl.MaxTime), nil, impl.ReadEarly)
	expectViewRead(t, "at since", v, at(1, 0), zset(entry(1, 1, 5)), impl.ReadOk)
	expectViewRead(t, "behind since", v, at(1, impl.MaxTime), zset(entry(1, 1, 5)), impl.ReadOk)
	expectViewRead(t, "a row disappears", v, at(2, 1), nil, impl.ReadOk)
	expectViewRead(t, "the last time before upper", v, at(2, 2), zset(entry(4, 3, 3)), impl.ReadOk)
	expectViewRead(t, "at upper", v, at(2, 3), nil, impl.ReadLate)
	expectViewRead(t, "between the times of upper", v, at(impl.MaxTime, 0), zset(entry(1, 1, 5)), impl.ReadOk)
	expectViewRead(t, "at the other time of upper", v, at(3, 1), nil, impl.ReadLate)
	expectViewRead(t, "behind upper", v, at(impl.MaxTime, impl.MaxTime), nil, impl.ReadLate)
	v.Upper = nil
	expectViewRead(t, "an empty upper", v, at(impl.MaxTime, impl.MaxTime), zset(entry(4, 3, 3)), impl.ReadOk)
	expectViewRead(t, "an empty upper, before since", v, at(0, 1), nil, impl.ReadEarly)
	v.Since = nil
	expectViewRead(t, "both empty", v, at(1, 0), nil, impl.ReadEarly)
	expectViewRead(t, "the zero view", impl.View{}, at(0, 0), nil, impl.ReadEarly)
	large := view(frontier(at(0, 0)), nil, update(impl.MaxWeight, at(0, 0), 1), update(1, at(0, 1), 1))
	expectViewRead(t, "the largest weight", large, at(5, 0), zset(entry(impl.MaxWeight, 1)), impl.ReadOk)
	expectViewRead(t, "what is not a Z-set", large, at(5, 1), nil, impl.ReadOk)
}

func TestP106InvalidArguments(t *testing.T) {
	for name, v := range invalidViews() {
		for _, time := range append(invalidTimes(), at(0, 0), at(1, 1), at(5, 5)) {
			expectViewRead(t, name, v, time, nil, impl.ReadInvalid)
		}
	}
	one := update(1, at(0, 0), 2)
	for _, time := range invalidTimes() {
		for _, v := range []impl.View{{}, impl.NewView(), view(frontier(at(0, 0)), nil, one), view(frontier(at(3, 3)), frontier(at(4, 4)), one)} {
			expectViewRead(t, "an invalid time", v, time, nil, impl.ReadInvalid)
		}
	}
}

func TestP107AppendingKeepsThePast(t *testing.T) {
	r := newRandom()
	read := 0
	for range 2000 {
		v := randomView(r)
		tr, upper := randomFurther(r, v)
		expectAppended(t, "random", v, tr, upper, view(v.Since, upper, consolidated(slices.Concat(v.Trace, tr))...))
		longer, _ := impl.AppendView(v, tr, upper)
		for _, time := range viewTimes() {
			z, code := impl.ReadView(v, time)
			if code == impl.ReadOk {
				expectViewRead(t, "after AppendView", longer, time, z, impl.ReadOk)
				read++
			}
		}
	}
	if read < 5000 {
		t.Errorf("only %d reads", read)
	}
}

func TestP108WhatWasAppendedCanBeRead(t *testing.T) {
	r := newRandom()
	later := 0
	for range 2000 {
		v := randomView(r)
		tr, upper := randomFurther(r, v)
		longer, _ := impl.AppendView(v, tr, upper)
		for _, time := range viewTimes() {
			if covered(upper, time) || !covered(v.Since, time) {
				continue
			}
			sum := impl.Add(impl.AsOf(v.Trace, time), impl.AsOf(tr, time))
			expectZSet(t, "the sum", sum, sumOf(accumulated(v.Trace, time), accumulated(tr, time)))
			expectViewRead(t, "after AppendView", longer, time, sum, impl.ReadOk)
			if covered(v.Upper, time) && len(tr) > 0 {
				later++
			}
		}
	}
	if later < 3000 {
		t.Errorf("only %d reads of what was appended", later)
	}
}

func TestP108GivenAppends(t *testing.T) {
	least, bent := frontier(at(0, 0)), frontier(at(0, 3), at(2, 1))
	a := updates(update(1, at(0, 0), 2, 1), update(-2, at(1, 2), 5, 5))
	b := updates(update(4, at(0, 3), 1, 9), update(-1, at(2, 1), 2, 1), update(2, at(3, 1), 5, 5))
	first := view(least, bent, a...)
	expectAppended(t, "to the new view", impl.NewView(), a, bent, first)
	both := updates(b[0], a[0], b[1], a[1], b[2])
	expectAppended(t, "updates of the same rows", first, b, frontier(at(0, 4), at(3, 2)), view(least, frontier(at(0, 4), at(3, 2)), both...))
	expectAppended(t, "an empty upper", first, b, nil, view(least, nil, both...))
	expectAppended(t, "no updates", first, nil, nil, view(least, nil, a...))
	expectAppended(t, "no updates to an empty upper", view(least, nil, a...), nil, nil, view(least, nil, a...))
	expectAppended(t, "to the zero view", impl.View{}, nil, nil, impl.View{})
	expectNotAppended(t, "an update before upper", first, updates(update(1, at(0, 2), 7, 7)), nil)
	expectNotAppended(t, "an update between the times of upper", first, updates(update(1, at(1, 2), 7, 7)), nil)
	expectNotAppended(t, "the last update before upper", first, append(slices.Clone(b), update(1, at(5, 0), 7, 7)), nil)
	expectNotAppended(t, "an update at the new upper", first, b, frontier(at(0, 4), at(3, 1)))
	expectNotAppended(t, "an update behind the new upper", first, b, frontier(at(0, 4), at(2, 1)))
	expectNotAppended(t, "an update without new times", first, b[:1], bent)
	expectNotAppended(t, "an earlier upper", first, nil, least)
	expectNotAppended(t, "an upper that is not comparable", first, nil, frontier(at(1, 0)))
	expectNotAppended(t, "an upper with a time less", first, b[:1], frontier(at(0, 4), at(1, 2)))
	expectNotAppended(t, "an upper behind the empty one", view(least, nil, a...), nil, bent)
	expectNotAppended(t, "an update behind the empty upper", view(least, nil, a...), b[:1], nil)
	expectNotAppended(t, "widths differ", first, updates(update(4, at(0, 3), 9)), nil)
	expectAppended(t, "widths differ, but there are no updates before", view(least, bent), updates(update(4, at(0, 3), 9)), nil, view(least, nil, update(4, at(0, 3), 9)))
	old := view(frontier(at(1, 1)), frontier(at(2, 2)), update(1, at(0, 0), 3))
	expectAppended(t, "an update that since does not cover stays", old, nil, nil, view(frontier(at(1, 1)), nil, old.Trace...))
}

func TestP108AppendViewLimitsTheUpdates(t *testing.T) {
	least, middle := frontier(at(0, 0)), frontier(at(1, 1))
	for _, count := range []int{0, 1, 200, impl.MaxUpdates - 1, impl.MaxUpdates} {
		v := view(least, middle, moved(numbered(1, count, 1), at(0, 1))...)
		rest := moved(numbered(1, impl.MaxUpdates-count, 1), at(1, 1))
		expectAppended(t, "the most updates", v, rest, nil, view(least, nil, consolidated(slices.Concat(v.Trace, rest))...))
		if count > 0 {
			rest = moved(numbered(1, len(rest)+1, 1), at(1, 1))
			expectNotAppended(t, "an update more", v, rest, nil)
		}
	}
	longest := longestFrontier()
	expectAppended(t, "the longest frontier", impl.NewView(), nil, longest, view(least, longest))
	last := update(1, at(impl.MaxTime, impl.MaxTime), 1)
	expectAppended(t, "the last time", view(least, longest), updates(last), nil, view(least, nil, last))
}

func TestP108InvalidArguments(t *testing.T) {
	least := frontier(at(0, 0))
	for name, v := range invalidViews() {
		expectNotAppended(t, name, v, nil, nil)
		expectNotAppended(t, name, v, nil, v.Upper)
		expectNotCompacted(t, name, v, v.Since)
		expectNotCompacted(t, name, v, v.Upper)
		expectNotCompacted(t, name, v, nil)
	}
	for name, tr := range invalidTraces() {
		expectNotAppended(t, name, impl.NewView(), tr, nil)
		expectNotAppended(t, name, impl.View{}, tr, nil)
	}
	for name, f := range invalidFrontiers() {
		expectNotAppended(t, name, impl.NewView(), nil, f)
		expectNotCompacted(t, name, impl.NewView(), f)
		expectNotCompacted(t, name, view(least, nil), f)
		expectNotCompacted(t, name, view(least, nil, update(1, at(0, 0), 2)), f)
	}
}

func TestP109UpdatesCanBeAppendedInParts(t *testing.T) {
	r := newRandom()
	divided := 0
	for range 2000 {
		v := randomView(r)
		expectAppended(t, "no updates with the present upper", v, nil, v.Upper, v)
		tr, upper := randomFurther(r, v)
		whole, _ := impl.AppendView(v, tr, upper)
		for _, middle := range frontierList(laterFrontier(r, v.Upper), impl.FrontierMeet(upper, impl.FrontierJoin(v.Upper, randomFrontier(r)))) {
			if !isAtMost(middle, upper) {
				continue
			}
			begun, ok := impl.AppendView(v, updatesBetween(tr, v.Upper, middle), middle)
			expectBool(t, "the first part can be appended", ok, true)
			expectAppended(t, "in parts", begun, updatesBetween(tr, middle, upper), upper, whole)
			if len(begun.Trace) > len(v.Trace) && len(begun.Trace) < len(whole.Trace) {
				divided++
			}
		}
		row := repeated(1, 1)
		if len(whole.Trace) > 0 {
			row = whole.Trace[0].Row
		}
		for _, time := range viewTimes() {
			if !covered(upper, time) {
				expectNotAppended(t, "an earlier time", whole, updates(update(1, time, row...)), nil)
			}
		}
	}
	if divided < 100 {
		t.Errorf("only %d parts have both some updates and not all", divided)
	}
}

// randomCompaction returns a valid view and a later frontier for its Since.
func randomCompaction(r *rand.Rand) (impl.View, []impl.Time) {
	v := randomView(r)
	since := laterFrontier(r, v.Since)
	if r.IntN(3) == 0 {
		since = impl.FrontierJoin(v.Since, randomFrontier(r))
	}
	if r.IntN(3) > 0 {
		since = impl.FrontierMeet(since, v.Upper)
	}
	return v, since
}

func TestP110CompactionKeepsWhatCanStillBeRead(t *testing.T) {
	r := newRandom()
	read, shorter, rejected := 0, 0, 0
	for range 5000 {
		v, since := randomCompaction(r)
		want, isValid := compactedByDefinition(v, since)
		if !isValid {
			expectNotCompacted(t, "the result is invalid", v, since)
			rejected++
			continue
		}
		expectCompacted(t, "random", v, since, want)
		c, _ := impl.CompactView(v, since)
		if len(c.Trace) > len(v.Trace) {
			t.Errorf("CompactView(%v, %v) has %d updates", v, since, len(c.Trace))
		}
		if len(c.Trace) < len(v.Trace) {
			shorter++
		}
		for _, time := range viewTimes() {
			if !covered(since, time) {
				expectViewRead(t, "a time that is given up", c, time, nil, impl.ReadEarly)
				continue
			}
			z, code := impl.ReadView(v, time)
			expectViewRead(t, "after CompactView", c, time, z, code)
			if code == impl.ReadOk && len(z) > 0 {
				read++
			}
		}
	}
	if read < 5000 || shorter < 200 || rejected < 200 {
		t.Errorf("%d reads have entries, %d traces are shorter, and %d frontiers are rejected", read, shorter, rejected)
	}
}

func TestP110GivenCompactions(t *testing.T) {
	least, upper := frontier(at(0, 0)), frontier(at(3, 3))
	v := view(least, upper, update(2, at(0, 0), 1), update(-2, at(1, 1), 1), update(1, at(0, 2), 2), update(5, at(1, 0), 2), update(1, at(2, 2), 2), update(3, at(2, 9), 3))
	expectCompacted(t, "updates that cancel out, and others that add up", v, frontier(at(2, 2)), view(frontier(at(2, 2)), upper, update(7, at(2, 2), 2), update(3, at(2, 9), 3)))
	bent := frontier(at(0, 2), at(2, 0))
	expectCompacted(t, "two times", v, bent, view(bent, upper, update(2, at(0, 0), 1), update(-2, at(1, 1), 1), update(1, at(0, 2), 2), update(5, at(1, 0), 2), update(1, at(2, 2), 2), update(3, at(2, 9), 3)))
	expectCompacted(t, "two later times", v, frontier(at(1, 2), at(2, 1)), view(frontier(at(1, 2), at(2, 1)), upper, update(5, at(1, 1), 2), update(1, at(1, 2), 2), update(1, at(2, 2), 2), update(3, at(2, 9), 3)))
	expectCompacted(t, "the present frontier", v, least, v)
	expectNotCompacted(t, "the updates become too late", v, upper)
	expectNotCompacted(t, "an update in a later round becomes too late", v, frontier(at(3, 0)))
	expectNotCompacted(t, "behind upper", v, frontier(at(3, 4)))
	expectNotCompacted(t, "partly behind upper", v, frontier(at(2, 4), at(5, 0)))
	expectNotCompacted(t, "the empty frontier", v, nil)
	expectCompacted(t, "upper, without updates", view(least, upper), upper, view(upper, upper))
	expectCompacted(t, "an empty upper", view(least, nil, v.Trace...), frontier(at(5, 5)), view(frontier(at(5, 5)), nil, update(7, at(5, 5), 2), update(3, at(5, 9), 3)))
	expectCompacted(t, "the empty frontier before an empty upper", view(least, nil, v.Trace...), nil, view(nil, nil, v.Trace...))
	last := frontier(at(impl.MaxTime, impl.MaxTime))
	expectCompacted(t, "the last time", view(least, nil, v.Trace...), last, view(last, nil, update(7, last[0], 2), update(3, last[0], 3)))
	old := view(frontier(at(1, 1)), upper, update(1, at(0, 0), 3), update(1, at(1, 1), 3))
	expectCompacted(t, "the present frontier, of updates before it", old, old.Since, view(old.Since, upper, update(2, at(1, 1), 3)))
	large := view(least, nil, update(impl.MaxWeight-1, at(0, 0), 1), update(1, at(0, 1), 1))
	expectCompacted(t, "the largest weight", large, frontier(at(1, 1)), view(frontier(at(1, 1)), nil, update(impl.MaxWeight, at(1, 1), 1)))
	large.Trace[1].Weight = 2
	expectCompacted(t, "what is not a trace is empty", large, frontier(at(1, 1)), view(frontier(at(1, 1)), nil))
}

func TestP111CompactionCanBeRepeated(t *testing.T) {
	r := newRandom()
	compacted, earlier := 0, 0
	for range 3000 {
		v, since := randomCompaction(r)
		c, ok := impl.CompactView(v, since)
		if !ok {
			continue
		}
		compacted++
		expectCompacted(t, "again", c, since, c)
		expectCompacted(t, "again with its own Since", c, c.Since, c)
		if !isAtMost(since, v.Since) {
			expectNotCompacted(t, "the frontier before", c, v.Since)
			earlier++
		}
		for _, f := range frontierList(randomFrontier(r), frontier(at(0, 0)), frontier(at(0, impl.MaxTime), at(impl.MaxTime, 0))) {
			if !isAtMost(since, f) {
				expectNotCompacted(t, "a frontier that is not later", c, f)
			}
		}
	}
	if compacted < 1000 || earlier < 500 {
		t.Errorf("%d views were compacted, %d of them to a later frontier", compacted, earlier)
	}
}

func TestP110EveryPairOfSmallFrontiers(t *testing.T) {
	times := grid(0, 2)
	trace := updates(update(1, at(0, 0), 1), update(1, at(0, 1), 2), update(-1, at(1, 0), 2), update(1, at(0, 0), 3), update(1, at(1, 1), 3))
	for _, before := range frontiersOf(times) {
		for _, upper := range frontiersOf(times) {
			v := view(before, upper, slices.DeleteFunc(slices.Clone(trace), func(u impl.Update) bool { return covered(upper, u.Time) })...)
			if !isAtMost(before, upper) {
				continue
			}
			for _, since := range frontiersOf(times) {
				want, isValid := compactedByDefinition(v, since)
				if isValid && isAtMost(before, since) {
					expectCompacted(t, "small", v, since, want)
				} else {
					expectNotCompacted(t, "small", v, since)
				}
			}
		}
	}
}

func TestP112ANewViewIsEmpty(t *testing.T) {
	v := impl.NewView()
	expectView(t, "NewView", v, true, view(frontier(at(0, 0)), frontier(at(0, 0))))
	for _, time := range grid(0, impl.MaxTime) {
		expectViewRead(t, "the new view", v, time, nil, impl.ReadLate)
	}
	r := newRandom()
	for range 300 {
		tr := randomTrace(r, between(r, 1, 3))
		all, ok := impl.AppendView(impl.NewView(), tr, nil)
		expectView(t, "AppendView to NewView", all, ok, view(frontier(at(0, 0)), nil, tr...))
		for _, time := range viewTimes() {
			expectViewRead(t, "all updates", all, time, accumulated(tr, time), impl.ReadOk)
		}
	}
	all, _ := impl.AppendView(impl.NewView(), updates(update(3, at(2, 5), 1)), nil)
	for _, time := range grid(0, impl.MaxTime) {
		expectViewRead(t, "one update", all, time, accumulated(all.Trace, time), impl.ReadOk)
	}
	v.Since[0], v.Upper[0] = at(5, 5), at(6, 6)
	expectView(t, "NewView after a change of the one before", impl.NewView(), true, view(frontier(at(0, 0)), frontier(at(0, 0))))
}

func TestViewFunctionsReturnNewMemory(t *testing.T) {
	least, bent := frontier(at(0, 0)), frontier(at(0, 3), at(2, 1))
	a := updates(update(1, at(0, 0), 2, 1), update(-2, at(1, 2), 5, 5))
	b := updates(update(4, at(0, 3), 1, 9), update(-1, at(2, 1), 2, 1))
	v := view(least, bent, a...)
	expectFresh(t, "NewView", impl.NewView)
	expectFresh(t, "AppendView", impl.AppendView, v, b, frontier(at(0, 4), at(3, 2)))
	expectFresh(t, "AppendView of nothing", impl.AppendView, v, nil, bent)
	expectFresh(t, "AppendView to the new view", impl.AppendView, impl.NewView(), a, bent)
	expectFresh(t, "ReadView", impl.ReadView, v, at(1, 2))
	expectFresh(t, "CompactView", impl.CompactView, v, frontier(at(0, 1), at(1, 0)))
	expectFresh(t, "CompactView with its Since", impl.CompactView, v, least)
	expectFresh(t, "CompactView of the new view", impl.CompactView, impl.NewView(), least)
}
