package tests

import (
	"fmt"
	"math/rand/v2"
	"slices"
	"testing"

	"loop.example/dataflow/impl"
)

// channel returns a channel with the steps 0, or with those given.
func channel(from int, to int, steps ...int) impl.Channel {
	c := impl.Channel{From: from, To: to}
	for _, step := range steps {
		c.Step += step
	}
	return c
}

func channelList(list ...impl.Channel) []impl.Channel {
	return list
}

func stamp(op int, epoch int, round int) impl.Pointstamp {
	return impl.Pointstamp{Op: op, Time: at(epoch, round)}
}

func stampList(list ...impl.Pointstamp) []impl.Pointstamp {
	return list
}

// isGraphByDefinition removes operators to which no channel with the steps 0 leads any more. Those left have a cycle.
func isGraphByDefinition(n int, channels []impl.Channel) bool {
	if n < 1 || n > 6 || len(channels) > 12 {
		return false
	}
	for _, c := range channels {
		if !isIndex(c.From, n) || !isIndex(c.To, n) || c.Step < 0 || c.Step > 3 {
			return false
		}
	}
	waiting := channels
	for range n {
		waiting = slices.DeleteFunc(slices.Clone(waiting), func(c impl.Channel) bool {
			leadsTo := func(before impl.Channel) bool { return before.To == c.From && before.Step == 0 }
			return c.Step > 0 || !slices.ContainsFunc(waiting, leadsTo)
		})
	}
	return len(waiting) == 0
}

// stepsByDefinition tries all paths that visit no operator twice.
func stepsByDefinition(channels []impl.Channel, from int, to int, visited ...int) int {
	if from == to {
		return 0
	}
	smallest := -1
	for _, c := range channels {
		if c.From != from || slices.Contains(visited, c.To) {
			continue
		}
		rest := stepsByDefinition(channels, c.To, to, append(slices.Clone(visited), from)...)
		if rest >= 0 && (smallest < 0 || c.Step+rest < smallest) {
			smallest = c.Step + rest
		}
	}
	return smallest
}

// processed is the reference for ProcessStamp without the limit.
func processed(channels []impl.Channel, stamps []impl.Pointstamp, i int) []impl.Pointstamp {
	next := append(slices.Clone(stamps[:i]), stamps[i+1:]...)
	for _, c := range channels {
		caused := stamp(c.To, stamps[i].Time.Epoch, stamps[i].Time.Round+c.Step)
		if c.From == stamps[i].Op && caused.Time.Round <= impl.MaxTime {
			next = append(next, caused)
		}
	}
	return next
}

// possibleWork returns the pointstamps and all others that can result from them. It is the reference for frontiers.
func possibleWork(channels []impl.Channel, stamps []impl.Pointstamp) map[impl.Pointstamp]bool {
	found := map[impl.Pointstamp]bool{}
	left := slices.Clone(stamps)
	for len(left) > 0 {
		last := len(left) - 1
		next := left[last]
		left = left[:last]
		if !found[next] {
			found[next] = true
			left = append(left, processed(channels, stampList(next), 0)...)
		}
	}
	return found
}

// timesOfWork returns the times at which work of an operator is possible.
func timesOfWork(work map[impl.Pointstamp]bool, op int) []impl.Time {
	var times []impl.Time
	for s := range work {
		if s.Op == op {
			times = append(times, s.Time)
		}
	}
	return times
}

// earliestOf is the reference for MinimalTimes, also for more times than that accepts.
func earliestOf(times []impl.Time) []impl.Time {
	var earliest []impl.Time
	for _, t := range times {
		others := slices.DeleteFunc(slices.Clone(times), func(other impl.Time) bool { return other == t })
		if !covered(others, t) {
			earliest = append(earliest, t)
		}
	}
	slices.SortFunc(earliest, func(a impl.Time, b impl.Time) int { return a.Epoch - b.Epoch })
	return slices.Compact(earliest)
}

// progressCase is a valid graph with valid pointstamps.
type progressCase struct {
	n        int
	channels []impl.Channel
	stamps   []impl.Pointstamp
}

func (c progressCase) String() string {
	return fmt.Sprintf("%d operators, channels %v, pointstamps %v", c.n, c.channels, c.stamps)
}

func (c progressCase) frontier(op int) []impl.Time {
	return impl.OperatorFrontier(c.n, c.channels, c.stamps, op)
}

func (c progressCase) isFinished(op int, t impl.Time) bool {
	return impl.IsFinished(c.n, c.channels, c.stamps, op, t)
}

func (c progressCase) process(i int) ([]impl.Pointstamp, bool) {
	return impl.ProcessStamp(c.n, c.channels, c.stamps, i)
}

// randomGraph returns any number of operators and channels. The graph is valid unless a cycle has no steps.
func randomGraph(r *rand.Rand) (int, []impl.Channel) {
	n := between(r, 1, impl.MaxOperators)
	var channels []impl.Channel
	for range r.IntN(impl.MaxChannels + 1) {
		channels = append(channels, channel(r.IntN(n), r.IntN(n), between(r, 0, impl.MaxStep)))
	}
	return n, channels
}

// randomStamps returns pointstamps at early and at the latest times.
func randomStamps(r *rand.Rand, n int) []impl.Pointstamp {
	var stamps []impl.Pointstamp
	latest := randomOf(r, []int{5, impl.MaxTime})
	for range r.IntN(9) {
		stamps = append(stamps, stamp(r.IntN(n), between(r, 0, 4), between(r, latest-5, latest)))
	}
	return stamps
}

// someProgressCases returns valid graphs with pointstamps: at first those that have a name, then random ones.
func someProgressCases(count int) []progressCase {
	var list []progressCase
	r := newRandom()
	for _, g := range namedGraphsOfChannels() {
		list = append(list, progressCase{g.n, g.channels, randomStamps(r, g.n)})
	}
	for len(list) < count {
		n, channels := randomGraph(r)
		if isGraphByDefinition(n, channels) {
			list = append(list, progressCase{n, channels, randomStamps(r, n)})
		}
	}
	return list
}

// namedGraph has the smallest steps from the operator 0 to each operator.
type namedGraph struct {
	name     string
	n        int
	channels []impl.Channel
	fromZero []int
}

// ring returns a cycle of n operators, each channel with the given steps.
func ring(n int, step int) []impl.Channel {
	var channels []impl.Channel
	for op := range n {
		channels = append(channels, channel(op, (op+1)%n, step))
	}
	return channels
}

// namedGraphsOfChannels has valid graphs only.
func namedGraphsOfChannels() []namedGraph {
	most := slices.Repeat(channelList(channel(0, 1, 2)), impl.MaxChannels-1)
	return []namedGraph{
		{"one operator", 1, nil, []int{0}},
		{"no channels", 3, nil, []int{0, -1, -1}},
		{"a loop with a step", 1, channelList(channel(0, 0, 1)), []int{0}},
		{"a loop with more steps", 2, channelList(channel(0, 0, 3), channel(0, 1)), []int{0, 0}},
		{"a line without steps", 6, ring(6, 0)[:5], []int{0, 0, 0, 0, 0, 0}},
		{"the longest line", 6, ring(6, 3)[:5], []int{0, 3, 6, 9, 12, 15}},
		{"the longest cycle", 6, ring(6, 3), []int{0, 3, 6, 9, 12, 15}},
		{"a cycle with one step", 3, channelList(channel(0, 1), channel(1, 2), channel(2, 0, 1)), []int{0, 0, 0}},
		{"a line against the order", 4, channelList(channel(0, 3, 1), channel(3, 2, 2), channel(2, 1, 1)), []int{0, 4, 3, 1}},
		{"a way around is shorter", 3, channelList(channel(0, 2, 3), channel(0, 1, 1), channel(1, 2, 1)), []int{0, 1, 2}},
		{"a way around is longer", 3, channelList(channel(0, 1, 2), channel(1, 2, 1), channel(0, 2, 2)), []int{0, 2, 2}},
		{"two channels, the smaller first", 2, channelList(channel(0, 1, 1), channel(0, 1, 2)), []int{0, 1}},
		{"two channels, the smaller last", 2, channelList(channel(0, 1, 2), channel(0, 1, 1)), []int{0, 1}},
		{"channels without steps both ways round", 4, channelList(channel(0, 1), channel(0, 2), channel(1, 3), channel(2, 3)), []int{0, 0, 0, 0}},
		{"a loop on the way", 3, channelList(channel(0, 1, 1), channel(1, 1, 1), channel(1, 2, 1)), []int{0, 1, 2}},
		{"only to the operator", 2, channelList(channel(1, 0, 2)), []int{0, -1}},
		{"the most channels", 2, append(most, channel(0, 1, 1)), []int{0, 1}},
	}
}

// expectSteps expects a result of MinSteps.
func expectSteps(t *testing.T, what string, got int, want int) {
	t.Helper()
	if got != want {
		t.Errorf("MinSteps of %s = %d, want %d", what, got, want)
	}
}

func TestP78PathsSatisfyTheTriangleInequality(t *testing.T) {
	unreachable := 0
	for _, c := range someProgressCases(500) {
		steps := func(from int, to int) int { return impl.MinSteps(c.n, c.channels, from, to) }
		for from := range c.n {
			expectSteps(t, fmt.Sprintf("%v to itself: %d", c, from), steps(from, from), 0)
			for to := range c.n {
				expectSteps(t, fmt.Sprintf("%v from %d to %d", c, from, to), steps(from, to), stepsByDefinition(c.channels, from, to))
				for third := range c.n {
					first, second := steps(from, third), steps(third, to)
					if first >= 0 && second >= 0 && (steps(from, to) < 0 || steps(from, to) > first+second) {
						t.Errorf("MinSteps of %v from %d to %d is more than over %d", c, from, to, third)
					}
				}
				if steps(from, to) == -1 {
					unreachable++
				}
			}
		}
		for _, ch := range c.channels {
			if smallest := steps(ch.From, ch.To); smallest < 0 || smallest > ch.Step {
				t.Errorf("MinSteps of %v from %d to %d = %d", c, ch.From, ch.To, smallest)
			}
		}
	}
	if unreachable < 1000 {
		t.Errorf("only %d pairs of operators without a path", unreachable)
	}
}

func TestP78StepsOfGivenGraphs(t *testing.T) {
	for _, g := range namedGraphsOfChannels() {
		for to, want := range g.fromZero {
			expectSteps(t, fmt.Sprintf("%s to %d", g.name, to), impl.MinSteps(g.n, g.channels, 0, to), want)
		}
	}
	channels := channelList(channel(0, 1), channel(1, 1, 1), channel(1, 2), channel(2, 0, 2))
	expectSteps(t, "a cycle back", impl.MinSteps(3, channels, 2, 1), 2)
	expectSteps(t, "a cycle around", impl.MinSteps(3, channels, 1, 0), 2)
}

func TestP78OperatorsThatAreNot(t *testing.T) {
	for _, n := range []int{1, 3, impl.MaxOperators} {
		channels := channelList(channel(0, n-1, 1), channel(n-1, 0, 1))
		for _, op := range append(extremeNumbers(n-1), impl.MaxOperators+1) {
			expectSteps(t, fmt.Sprintf("%d operators from %d", n, op), impl.MinSteps(n, channels, op, 0), -1)
			expectSteps(t, fmt.Sprintf("%d operators to %d", n, op), impl.MinSteps(n, channels, 0, op), -1)
			expectSteps(t, fmt.Sprintf("%d operators from %d to itself", n, op), impl.MinSteps(n, channels, op, op), -1)
		}
	}
}

// invalidGraph is a graph that is invalid in one way.
type invalidGraph struct {
	name     string
	n        int
	channels []impl.Channel
}

func invalidGraphs() []invalidGraph {
	list := []invalidGraph{
		{"too many channels", 2, slices.Repeat(channelList(channel(0, 1, 1)), impl.MaxChannels+1)},
		{"a loop without steps", 1, channelList(channel(0, 0))},
		{"a loop of the last operator", 6, channelList(channel(5, 5))},
		{"a loop without steps beside one with", 2, channelList(channel(1, 1, 1), channel(1, 1))},
		{"a cycle without steps", 2, channelList(channel(0, 1), channel(1, 0))},
		{"a later cycle without steps", 3, channelList(channel(0, 1, 1), channel(1, 0, 2), channel(1, 2), channel(2, 1))},
		{"a cycle without steps beside one with", 2, channelList(channel(0, 1, 1), channel(1, 0), channel(0, 1))},
		{"the longest cycle without steps", 6, ring(6, 0)},
		{"a cycle without steps against the order", 4, channelList(channel(3, 2), channel(2, 1), channel(1, 3))},
		{"a cycle behind a line", 5, channelList(channel(0, 1), channel(1, 2), channel(2, 3), channel(3, 4), channel(4, 2))},
	}
	for _, n := range append(extremeNumbers(impl.MaxOperators), 0) {
		list = append(list, invalidGraph{fmt.Sprintf("%d operators", n), n, nil})
		list = append(list, invalidGraph{fmt.Sprintf("%d operators with a channel", n), n, channelList(channel(0, 0, 1))})
	}
	for _, op := range extremeNumbers(1) {
		list = append(list, invalidGraph{fmt.Sprintf("from %d", op), 2, channelList(channel(0, 1), channel(op, 1, 1))})
		list = append(list, invalidGraph{fmt.Sprintf("to %d", op), 2, channelList(channel(0, 1), channel(1, op, 1))})
	}
	for _, step := range extremeNumbers(impl.MaxStep) {
		list = append(list, invalidGraph{fmt.Sprintf("step %d", step), 2, channelList(channel(0, 1, step))})
		list = append(list, invalidGraph{fmt.Sprintf("the last step %d", step), 2, channelList(channel(0, 1), channel(0, 1, step))})
	}
	return list
}

func TestP79RemovingAChannelKeepsAGraphValid(t *testing.T) {
	r := newRandom()
	valid, invalid := 0, 0
	for range 3000 {
		n, channels := randomGraph(r)
		isValid := isGraphByDefinition(n, channels)
		what := fmt.Sprintf("ValidGraph(%d, %v)", n, channels)
		expectBool(t, what, impl.ValidGraph(n, channels), isValid)
		if !isValid {
			invalid++
			continue
		}
		valid++
		for length := range channels {
			expectBool(t, fmt.Sprintf("%s of %d channels", what, length), impl.ValidGraph(n, channels[:length]), true)
			without := slices.Delete(slices.Clone(channels), length, length+1)
			expectBool(t, fmt.Sprintf("%s without the channel %d", what, length), impl.ValidGraph(n, without), true)
		}
		expectBool(t, what+" with one operator more", impl.ValidGraph(n+1, channels), n < impl.MaxOperators)
	}
	if valid < 500 || invalid < 500 {
		t.Errorf("%d graphs are valid, %d are not", valid, invalid)
	}
}

func TestP79GivenGraphs(t *testing.T) {
	for _, g := range namedGraphsOfChannels() {
		expectBool(t, "ValidGraph: "+g.name, impl.ValidGraph(g.n, g.channels), true)
		expectBool(t, "by definition: "+g.name, isGraphByDefinition(g.n, g.channels), true)
	}
	for _, g := range invalidGraphs() {
		expectBool(t, "by definition: "+g.name, isGraphByDefinition(g.n, g.channels), false)
	}
}

func TestP79LimitsOfGraphs(t *testing.T) {
	expectInts(t, "the limits", []int{impl.MaxOperators, impl.MaxChannels, impl.MaxStep, impl.MaxStamps}, []int{6, 12, 3, 40})
	for n := -3; n <= 10; n++ {
		expectBool(t, fmt.Sprintf("ValidGraph of %d operators", n), impl.ValidGraph(n, nil), 1 <= n && n <= 6)
	}
	for count := range 16 {
		channels := slices.Repeat(channelList(channel(0, 1)), count)
		expectBool(t, fmt.Sprintf("ValidGraph of %d channels", count), impl.ValidGraph(2, channels), count <= 12)
	}
	for step := -2; step <= 6; step++ {
		expectBool(t, fmt.Sprintf("ValidGraph with the step %d", step), impl.ValidGraph(2, channelList(channel(0, 1, step))), 0 <= step && step <= 3)
		expectBool(t, fmt.Sprintf("ValidGraph with the step %d of a loop", step), impl.ValidGraph(2, channelList(channel(1, 1, step))), 1 <= step && step <= 3)
	}
}

func TestP79InvalidGraphs(t *testing.T) {
	for _, g := range invalidGraphs() {
		expectBool(t, "ValidGraph: "+g.name, impl.ValidGraph(g.n, g.channels), false)
		expectSteps(t, g.name, impl.MinSteps(g.n, g.channels, 0, 0), -1)
		expectSteps(t, g.name+" to the next", impl.MinSteps(g.n, g.channels, 0, 1), -1)
		for _, stamps := range [][]impl.Pointstamp{nil, stampList(stamp(0, 1, 1))} {
			c := progressCase{g.n, g.channels, stamps}
			expectTimes(t, "OperatorFrontier: "+g.name, c.frontier(0), nil)
			expectBool(t, "IsFinished: "+g.name, c.isFinished(0, at(0, 0)), false)
			expectNotProcessed(t, g.name, c, 0)
		}
	}
}

// expectNotProcessed expects that ProcessStamp returns false.
func expectNotProcessed(t *testing.T, what string, c progressCase, i int) {
	t.Helper()
	next, ok := c.process(i)
	if len(next) != 0 || ok {
		t.Errorf("ProcessStamp of %d: %s = %v, %v", i, what, next, ok)
	}
}

// invalidStamps has, for each way to be invalid, pointstamps for two operators.
func invalidStamps() map[string][]impl.Pointstamp {
	lists := map[string][]impl.Pointstamp{"too many": slices.Repeat(stampList(stamp(0, 0, 0)), impl.MaxStamps+1)}
	for _, op := range extremeNumbers(1) {
		lists[fmt.Sprint("operator ", op)] = stampList(stamp(op, 0, 0))
		lists[fmt.Sprint("last operator ", op)] = stampList(stamp(0, 0, 0), stamp(op, 0, 0))
		lists[fmt.Sprint("first operator ", op)] = stampList(stamp(op, 0, 0), stamp(0, 0, 0))
	}
	for _, time := range invalidTimes() {
		lists[fmt.Sprint("time ", time)] = stampList(impl.Pointstamp{Op: 1, Time: time})
		lists[fmt.Sprint("last time ", time)] = stampList(stamp(0, 0, 0), impl.Pointstamp{Op: 1, Time: time})
		lists[fmt.Sprint("first time ", time)] = stampList(impl.Pointstamp{Op: 1, Time: time}, stamp(0, 0, 0))
	}
	return lists
}

func TestP80TheFrontierIsReachedByPointstamps(t *testing.T) {
	long := 0
	for _, c := range someProgressCases(1000) {
		work := possibleWork(c.channels, c.stamps)
		for op := range c.n {
			f := c.frontier(op)
			what := fmt.Sprintf("OperatorFrontier of %v for %d", c, op)
			expectTimes(t, what, f, earliestOf(timesOfWork(work, op)))
			expectBool(t, "ValidFrontier of "+what, impl.ValidFrontier(f), true)
			for _, s := range c.stamps {
				if s.Op == op && !impl.FrontierCovers(f, s.Time) {
					t.Errorf("%s = %v does not cover %v", what, f, s.Time)
				}
			}
			for _, e := range f {
				results := func(s impl.Pointstamp) bool {
					steps := impl.MinSteps(c.n, c.channels, s.Op, op)
					return steps >= 0 && e == at(s.Time.Epoch, s.Time.Round+steps)
				}
				if !slices.ContainsFunc(c.stamps, results) {
					t.Errorf("%s has %v", what, e)
				}
			}
			if len(f) > 1 {
				long++
			}
		}
	}
	if long < 300 {
		t.Errorf("only %d frontiers have several elements", long)
	}
}

func TestP80GivenFrontiers(t *testing.T) {
	loop := channelList(channel(0, 1), channel(1, 1, 1), channel(1, 2, 2))
	line := ring(6, 3)[:5]
	cases := []struct {
		name     string
		n        int
		channels []impl.Channel
		stamps   []impl.Pointstamp
		op       int
		want     []impl.Time
	}{
		{"its own work", 3, loop, stampList(stamp(1, 2, 3)), 1, []impl.Time{at(2, 3)}},
		{"work of an operator before", 3, loop, stampList(stamp(0, 2, 3)), 2, []impl.Time{at(2, 5)}},
		{"work of an operator behind", 3, loop, stampList(stamp(1, 2, 3), stamp(2, 0, 0)), 0, nil},
		{"an earlier time of another operator", 3, loop, stampList(stamp(2, 4, 4), stamp(1, 4, 1)), 2, []impl.Time{at(4, 3)}},
		{"times that are not comparable", 3, loop, stampList(stamp(1, 3, 0), stamp(0, 1, 5), stamp(2, 2, 4)), 2, []impl.Time{at(1, 7), at(2, 4), at(3, 2)}},
		{"the same work twice", 3, loop, stampList(stamp(1, 1, 1), stamp(1, 1, 1)), 1, []impl.Time{at(1, 1)}},
		{"the last round", 3, loop, stampList(stamp(1, 7, impl.MaxTime-2)), 2, []impl.Time{at(7, impl.MaxTime)}},
		{"a round too late", 3, loop, stampList(stamp(1, 7, impl.MaxTime-1)), 2, nil},
		{"a round too late for one", 3, loop, stampList(stamp(1, 7, impl.MaxTime-1), stamp(0, 9, 0)), 2, []impl.Time{at(9, 2)}},
		{"the last time", 3, loop, stampList(stamp(1, impl.MaxTime, impl.MaxTime)), 1, []impl.Time{at(impl.MaxTime, impl.MaxTime)}},
		{"the longest way", 6, line, stampList(stamp(0, 0, impl.MaxTime-15)), 5, []impl.Time{at(0, impl.MaxTime)}},
		{"the longest way from too late", 6, line, stampList(stamp(0, 0, impl.MaxTime-14)), 5, nil},
		{"no work", 3, loop, nil, 1, nil},
	}
	for _, c := range cases {
		p := progressCase{c.n, c.channels, c.stamps}
		expectTimes(t, "OperatorFrontier: "+c.name, p.frontier(c.op), c.want)
	}
}

func TestP80LongestFrontier(t *testing.T) {
	// There are fewer pointstamps than a frontier can have elements.
	var stamps []impl.Pointstamp
	var want []impl.Time
	for epoch := range impl.MaxStamps {
		stamps = append(stamps, stamp(epoch%2, epoch, impl.MaxTime-2*epoch))
		want = append(want, at(epoch, impl.MaxTime-2*epoch))
	}
	slices.Reverse(stamps)
	c := progressCase{2, channelList(channel(0, 1), channel(1, 0, 1)), stamps}
	expectTimes(t, "OperatorFrontier of the most pointstamps", c.frontier(1), want)
	// The work of the operator 1, which has the odd epochs, comes to the operator 0 a round later.
	var delayed []impl.Time
	for _, e := range want {
		delayed = append(delayed, at(e.Epoch, e.Round+e.Epoch%2))
	}
	expectTimes(t, "OperatorFrontier before", c.frontier(0), delayed)
}

func TestP80P82InvalidPointstampsAndOperators(t *testing.T) {
	channels := channelList(channel(0, 1, 1))
	late := at(impl.MaxTime, impl.MaxTime)
	for name, stamps := range invalidStamps() {
		c := progressCase{2, channels, stamps}
		for op := range 2 {
			expectTimes(t, "OperatorFrontier: "+name, c.frontier(op), nil)
			expectBool(t, "IsFinished: "+name, c.isFinished(op, at(0, 0)), false)
			expectBool(t, "IsFinished late: "+name, c.isFinished(op, late), false)
		}
		for i := range stamps {
			expectNotProcessed(t, name, c, i)
		}
	}
	for _, n := range []int{1, 2, impl.MaxOperators} {
		for _, op := range extremeNumbers(n - 1) {
			c := progressCase{n, nil, stampList(stamp(n-1, 3, 3))}
			expectTimes(t, fmt.Sprintf("OperatorFrontier for %d of %d", op, n), c.frontier(op), nil)
			expectBool(t, fmt.Sprintf("IsFinished for %d of %d", op, n), c.isFinished(op, at(0, 0)), false)
		}
	}
	most := progressCase{2, channels, slices.Repeat(stampList(stamp(0, 3, 3)), impl.MaxStamps)}
	expectTimes(t, "OperatorFrontier of the most pointstamps", most.frontier(1), []impl.Time{at(3, 4)})
	expectBool(t, "IsFinished of the most pointstamps", most.isFinished(1, at(3, 3)), true)
}

// afterEachStamp calls a function for each pointstamp with the case after it has been processed.
func afterEachStamp(t *testing.T, c progressCase, f func(what string, next progressCase)) {
	t.Helper()
	for i := range c.stamps {
		what := fmt.Sprintf("pointstamp %d of %v", i, c)
		stamps, ok := c.process(i)
		if !ok || !slices.Equal(stamps, processed(c.channels, c.stamps, i)) {
			t.Errorf("ProcessStamp of %s = %v, %v", what, stamps, ok)
		}
		f(what, progressCase{c.n, c.channels, stamps})
	}
}

func TestP81ProgressNeverGoesBack(t *testing.T) {
	moved := 0
	for _, c := range someProgressCases(1000) {
		afterEachStamp(t, c, func(what string, next progressCase) {
			for op := range c.n {
				before, after := c.frontier(op), next.frontier(op)
				if !impl.FrontierLessEqual(before, after) {
					t.Errorf("OperatorFrontier for %d goes from %v back to %v by %s", op, before, after, what)
				}
				if !slices.Equal(before, after) {
					moved++
				}
			}
		})
	}
	if moved < 1000 {
		t.Errorf("only %d frontiers move", moved)
	}
}

func TestP81ProcessingOfGivenPointstamps(t *testing.T) {
	loop := channelList(channel(1, 2, 2), channel(0, 1), channel(1, 1, 1), channel(1, 0, 3), channel(1, 2))
	last := impl.MaxTime
	cases := []struct {
		name   string
		stamps []impl.Pointstamp
		i      int
		want   []impl.Pointstamp
	}{
		{"all channels in order", stampList(stamp(1, 2, 3)), 0, stampList(stamp(2, 2, 5), stamp(1, 2, 4), stamp(0, 2, 6), stamp(2, 2, 3))},
		{"without channels", stampList(stamp(2, 2, 3)), 0, nil},
		{"the first one", stampList(stamp(0, 5, 0), stamp(2, 1, 1), stamp(0, 0, 0)), 0, stampList(stamp(2, 1, 1), stamp(0, 0, 0), stamp(1, 5, 0))},
		{"one in the middle", stampList(stamp(2, 1, 1), stamp(0, 5, 0), stamp(0, 0, 0)), 1, stampList(stamp(2, 1, 1), stamp(0, 0, 0), stamp(1, 5, 0))},
		{"the last one", stampList(stamp(2, 1, 1), stamp(0, 0, 0), stamp(0, 5, 0)), 2, stampList(stamp(2, 1, 1), stamp(0, 0, 0), stamp(1, 5, 0))},
		{"one of two equal ones", stampList(stamp(0, 5, 0), stamp(0, 5, 0)), 1, stampList(stamp(0, 5, 0), stamp(1, 5, 0))},
		{"a pointstamp that is there", stampList(stamp(1, 5, 0), stamp(0, 5, 0)), 1, stampList(stamp(1, 5, 0), stamp(1, 5, 0))},
		{"the last rounds", stampList(stamp(1, 8, last-2)), 0, stampList(stamp(2, 8, last), stamp(1, 8, last-1), stamp(2, 8, last-2))},
		{"the last round", stampList(stamp(1, last, last)), 0, stampList(stamp(2, last, last))},
	}
	for _, c := range cases {
		next, ok := impl.ProcessStamp(3, loop, c.stamps, c.i)
		if !ok || !slices.Equal(next, c.want) {
			t.Errorf("ProcessStamp of %s = %v, %v, want %v", c.name, next, ok, c.want)
		}
	}
}

func TestP81ProcessStampLimitsThePointstamps(t *testing.T) {
	for count := 1; count <= impl.MaxStamps; count++ {
		for more := range 5 {
			c := progressCase{2, slices.Repeat(channelList(channel(0, 1, 1)), more), slices.Repeat(stampList(stamp(0, 1, 1)), count)}
			what := fmt.Sprintf("%d pointstamps and %d channels", count, more)
			if count-1+more > impl.MaxStamps {
				expectNotProcessed(t, what, c, 0)
				continue
			}
			next, ok := c.process(count - 1)
			if !ok || !slices.Equal(next, processed(c.channels, c.stamps, count-1)) {
				t.Errorf("ProcessStamp of %s = %v, %v", what, next, ok)
			}
		}
	}
	// Work that is too late does not count.
	late := progressCase{2, slices.Repeat(channelList(channel(0, 1, 1)), 5), slices.Repeat(stampList(stamp(0, 1, impl.MaxTime)), impl.MaxStamps)}
	if next, ok := late.process(0); !ok || !slices.Equal(next, late.stamps[1:]) {
		t.Errorf("ProcessStamp of the last round = %v, %v", next, ok)
	}
	for _, i := range extremeNumbers(2) {
		expectNotProcessed(t, "three pointstamps", progressCase{2, nil, slices.Repeat(stampList(stamp(0, 1, 1)), 3)}, i)
	}
	for _, i := range []int{-1, 0, 1} {
		expectNotProcessed(t, "no pointstamps", progressCase{2, nil, nil}, i)
	}
}

func TestP82WhatIsFinishedStaysFinished(t *testing.T) {
	finished, open := 0, 0
	for _, c := range someProgressCases(300) {
		work := possibleWork(c.channels, c.stamps)
		for op := range c.n {
			possible, f := timesOfWork(work, op), c.frontier(op)
			for _, time := range append(grid(0, 6), grid(impl.MaxTime-4, impl.MaxTime)...) {
				isFinished := c.isFinished(op, time)
				what := fmt.Sprintf("IsFinished of %v for %d at %v", c, op, time)
				expectBool(t, what, isFinished, !covered(possible, time))
				expectBool(t, what+" by OperatorFrontier", isFinished, !impl.FrontierCovers(f, time))
				if !isFinished {
					open++
					continue
				}
				finished++
				for _, earlier := range []impl.Time{at(time.Epoch, 0), at(0, time.Round), at(time.Epoch/2, time.Round/2), at(max(0, time.Epoch-1), time.Round)} {
					expectBool(t, fmt.Sprintf("%s, and so at %v", what, earlier), c.isFinished(op, earlier), true)
				}
			}
		}
	}
	if finished < 5000 || open < 5000 {
		t.Errorf("%d times are finished, %d are not", finished, open)
	}
}

func TestP82ProcessingKeepsWhatIsFinished(t *testing.T) {
	times := grid(0, 5)
	for _, c := range someProgressCases(200) {
		afterEachStamp(t, c, func(what string, next progressCase) {
			for op := range c.n {
				for _, time := range times {
					if c.isFinished(op, time) && !next.isFinished(op, time) {
						t.Errorf("%v of %d is finished before %s, but not after it", time, op, what)
					}
				}
			}
		})
	}
}

func TestP82InvalidTimesAreNotFinished(t *testing.T) {
	for _, time := range invalidTimes() {
		for op := range 2 {
			c := progressCase{2, channelList(channel(0, 1)), stampList(stamp(0, 5, 5))}
			expectBool(t, fmt.Sprint("IsFinished at ", time), c.isFinished(op, time), false)
			c.stamps = nil
			expectBool(t, fmt.Sprint("IsFinished without work at ", time), c.isFinished(op, time), false)
		}
	}
}

func TestP83WithoutWorkEverythingIsFinished(t *testing.T) {
	times := append(grid(0, 2), grid(impl.MaxTime-2, impl.MaxTime)...)
	for _, c := range someProgressCases(300) {
		c.stamps = nil
		for op := range c.n {
			expectTimes(t, fmt.Sprintf("OperatorFrontier of %v for %d", c, op), c.frontier(op), nil)
			for _, time := range times {
				expectBool(t, fmt.Sprintf("IsFinished of %v for %d at %v", c, op, time), c.isFinished(op, time), true)
			}
		}
	}
	empty := progressCase{impl.MaxOperators, nil, stampList()}
	for op := range impl.MaxOperators {
		for _, time := range grid(0, impl.MaxTime) {
			expectBool(t, fmt.Sprintf("IsFinished for %d at %v", op, time), empty.isFinished(op, time), true)
		}
	}
}

func TestProgressFunctionsReturnNewMemory(t *testing.T) {
	channels := channelList(channel(0, 1), channel(1, 1, 1), channel(1, 2, 2), channel(2, 0, 1))
	stamps := stampList(stamp(1, 2, 3), stamp(0, 3, 0), stamp(2, 0, 9), stamp(1, 1, 4))
	for op := range 3 {
		expectFresh(t, "OperatorFrontier", impl.OperatorFrontier, 3, channels, stamps, op)
	}
	for i := range stamps {
		expectFresh(t, "ProcessStamp", impl.ProcessStamp, 3, channels, stamps, i)
	}
	expectFresh(t, "ProcessStamp without channels", impl.ProcessStamp, 3, nil, stamps, 3)
}
