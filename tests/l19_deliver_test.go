package tests

import (
	"fmt"
	"math/rand/v2"
	"slices"
	"testing"

	"loop.example/dataflow/impl"
)

func delivery(input int, entries ...impl.Entry) impl.Delivery {
	return impl.Delivery{Input: input, Change: entries}
}

func deliveryList(list ...impl.Delivery) []impl.Delivery {
	return list
}

func reversed(list []impl.Delivery) []impl.Delivery {
	backward := slices.Clone(list)
	slices.Reverse(backward)
	return backward
}

// onlyChange returns the changes of all inputs for a delivery.
func onlyChange(widths []int, d impl.Delivery) [][]impl.Entry {
	changes := make([][]impl.Entry, len(widths))
	changes[d.Input] = d.Change
	return changes
}

// coalesced is the reference for Coalesce.
func coalesced(widths []int, list []impl.Delivery) [][]impl.Entry {
	sums := make([][]impl.Entry, len(widths))
	for input := range sums {
		var changes [][]impl.Entry
		for _, d := range list {
			if d.Input == input {
				changes = append(changes, d.Change)
			}
		}
		sums[input] = addedOneByOne(changes)
	}
	return sums
}

// deliveredByDefinition returns the final state and the sum of the changes of the last node.
func deliveredByDefinition(list []impl.Node, widths []int, deliveries []impl.Delivery) ([][]impl.Entry, []impl.Entry) {
	state := make([][]impl.Entry, len(list))
	var changes [][]impl.Entry
	for _, d := range deliveries {
		var change []impl.Entry
		state, change = stepByDefinition(list, state, onlyChange(widths, d))
		changes = append(changes, change)
	}
	return state, addedOneByOne(changes)
}

// deliveryCase is a plan with deliveries.
type deliveryCase struct {
	plan   []impl.Node
	widths []int
	list   []impl.Delivery
}

func (c deliveryCase) String() string {
	return fmt.Sprintf("(%v, %v, %v)", c.plan, c.widths, c.list)
}

func randomDeliveries(r *rand.Rand, widths []int, n int) []impl.Delivery {
	var list []impl.Delivery
	for range n {
		input := r.IntN(len(widths))
		d := delivery(input, randomZSet(r, widths[input])...)
		if r.IntN(10) == 0 {
			d.Change = nil
		}
		list = append(list, d)
	}
	return list
}

// canDeliver reports whether every Z-set on the way can be represented.
func canDeliver(c deliveryCase) bool {
	before, _ := evaluated(c.plan, make([][]impl.Entry, len(c.widths)))
	zs := make([][]impl.Entry, len(c.widths))
	for _, d := range c.list {
		zs = added(zs, onlyChange(c.widths, d))
		after, tooLarge := evaluated(c.plan, zs)
		if tooLarge > 0 || !canStep(c.plan, before, after) {
			return false
		}
		before = after
	}
	return true
}

// someDeliveryCases returns cases in which every Z-set on the way can be represented, for reversed deliveries, too.
func someDeliveryCases(count int) []deliveryCase {
	r := newRandom()
	var cases []deliveryCase
	for len(cases) < count {
		widths := randomWidths(r)
		c := deliveryCase{plan: randomPlan(r, between(r, 1, 9), widths), widths: widths}
		c.list = randomDeliveries(r, widths, r.IntN(8))
		if len(cases)%10 == 0 {
			c.list = randomDeliveries(r, widths, impl.MaxSteps)
		}
		if canDeliver(c) && canDeliver(deliveryCase{c.plan, widths, reversed(c.list)}) {
			cases = append(cases, c)
		}
	}
	return cases
}

func TestP95CoalescingDoesNotDependOnTheOrder(t *testing.T) {
	r := newRandom()
	for range 500 {
		widths := randomWidths(r)
		list := randomDeliveries(r, widths, r.IntN(impl.MaxSteps+1))
		what := fmt.Sprintf("(%v, %v)", widths, list)
		sums := impl.Coalesce(widths, list)
		expectZSets(t, "Coalesce"+what, sums, coalesced(widths, list))
		expectZSets(t, "Coalesce, reversed"+what, impl.Coalesce(widths, reversed(list)), sums)
		expectBool(t, "ValidInputs of Coalesce"+what, impl.ValidInputs(widths, sums), true)
	}
}

func TestP95GivenDeliveries(t *testing.T) {
	widths := []int{1, 2}
	one, pair := entry(1, 1), entry(2, 1, 5)
	heaviest := entry(impl.MaxWeight, 1)
	cases := []struct {
		name string
		list []impl.Delivery
		want [][]impl.Entry
	}{
		{"no deliveries", nil, inputs(nil, nil)},
		{"an empty change", deliveryList(delivery(1)), inputs(nil, nil)},
		{"one input", deliveryList(delivery(0, one)), inputs(zset(one), nil)},
		{"the other input", deliveryList(delivery(1, pair)), inputs(nil, zset(pair))},
		{"both inputs by turns", deliveryList(delivery(1, pair), delivery(0, one), delivery(1, entry(1, 0, 0)), delivery(0, one)),
			inputs(zset(entry(2, 1)), zset(entry(1, 0, 0), pair))},
		{"changes that cancel", deliveryList(delivery(0, one), delivery(1, pair), delivery(0, entry(-1, 1))), inputs(nil, zset(pair))},
		{"the largest weight", deliveryList(delivery(0, entry(impl.MaxWeight-1, 1)), delivery(0, one)), inputs(zset(heaviest), nil)},
		{"a weight too large", deliveryList(delivery(0, heaviest), delivery(1, pair), delivery(0, one)), inputs(nil, zset(pair))},
		{"a weight too large on the way", deliveryList(delivery(0, heaviest), delivery(0, one), delivery(0, entry(-1, 1))), inputs(zset(entry(-1, 1)), nil)},
		{"the same changes in another order", deliveryList(delivery(0, heaviest), delivery(0, entry(-1, 1)), delivery(0, one)), inputs(zset(heaviest), nil)},
		{"too many entries", deliveryList(delivery(0, numbered(1, impl.MaxEntries, 1)...), delivery(0, entry(1, 0)), delivery(0, one)), inputs(zset(one), nil)},
	}
	for _, c := range cases {
		expectZSets(t, "Coalesce: "+c.name, impl.Coalesce(widths, c.list), c.want)
		list := sources()[:2]
		state, output := deliveredByDefinition(list, widths, c.list)
		expectZSets(t, "by definition: "+c.name, state, c.want)
		expectDelivered(t, c.name, deliveryCase{list, widths, c.list}, state, output)
	}
}

// expectDelivered expects the results of DeliverAll and DeliveredOutput.
func expectDelivered(t *testing.T, what string, c deliveryCase, state [][]impl.Entry, output []impl.Entry) {
	t.Helper()
	expectZSets(t, "DeliverAll"+what, impl.DeliverAll(c.plan, c.widths, c.list), state)
	expectZSet(t, "DeliveredOutput"+what, impl.DeliveredOutput(c.plan, c.widths, c.list), output)
}

// invalidDeliveries has, for each way to be invalid, deliveries for inputs of the widths 1 and 2.
func invalidDeliveries() map[string][]impl.Delivery {
	good := delivery(0, entry(1, 1))
	lists := map[string][]impl.Delivery{
		"too many":            slices.Repeat(deliveryList(good), impl.MaxSteps+1),
		"too many empty ones": slices.Repeat(deliveryList(delivery(0)), impl.MaxSteps+1),
	}
	add := func(name string, bad impl.Delivery) {
		lists[name] = deliveryList(bad)
		lists["first: "+name] = deliveryList(bad, good)
		lists["last: "+name] = deliveryList(good, bad)
	}
	for _, input := range extremeNumbers(1) {
		add(fmt.Sprint("input ", input), delivery(input, entry(1, 1)))
		add(fmt.Sprint("an empty change of input ", input), delivery(input))
	}
	add("width 2 for 1", delivery(0, entry(1, 1, 2)))
	add("width 1 for 2", delivery(1, entry(1, 1)))
	add("width 3 for 2", delivery(1, entry(1, 1, 2, 3)))
	for name, z := range invalidZSets() {
		add(name, delivery(0, z...))
		add("for the last input: "+name, delivery(1, z...))
	}
	return lists
}

func TestP95P96P97InvalidDeliveries(t *testing.T) {
	widths := []int{1, 2}
	for name, list := range invalidDeliveries() {
		expectZSets(t, "Coalesce: "+name, impl.Coalesce(widths, list), nil)
		for n := 1; n <= 2; n++ {
			expectDelivered(t, ": "+name, deliveryCase{sources()[:n], widths, list}, nil, nil)
		}
	}
}

func TestP95P96P97InvalidWidthsAndPlans(t *testing.T) {
	for _, widths := range badWidths() {
		for _, list := range [][]impl.Delivery{nil, deliveryList(delivery(0)), deliveryList(delivery(0, entry(1, 1)))} {
			expectZSets(t, fmt.Sprint("Coalesce with the widths ", widths), impl.Coalesce(widths, list), nil)
			expectDelivered(t, fmt.Sprint(" with the widths ", widths), deliveryCase{sources()[:1], widths, list}, nil, nil)
		}
	}
	pair := deliveryList(delivery(0, entry(1, 1, 2)))
	for name, n := range invalidLastNodes() {
		for _, list := range [][]impl.Delivery{nil, pair} {
			expectDelivered(t, ": "+name, deliveryCase{append(sources(), n), threeWidths(), list}, nil, nil)
		}
	}
	for _, list := range [][]impl.Node{nil, {}, longestPlan(1)} {
		expectDelivered(t, fmt.Sprintf(" of %d nodes", len(list)), deliveryCase{list, []int{2}, pair}, nil, nil)
	}
	longest := longestPlan(0)
	expectDelivered(t, " of the longest plan", deliveryCase{longest, []int{2}, pair}, impl.EvalNodes(longest, []int{2}, inputs(pair[0].Change)), zset(entry(-1, 1, 2)))
}

func TestP95P96P97LimitOfDeliveries(t *testing.T) {
	count := plan(source(0), reduceOf(0, 0, impl.Count, 0))
	for n := range impl.MaxSteps + 4 {
		list := slices.Repeat(deliveryList(delivery(0, entry(1, 7))), n)
		what := fmt.Sprintf(" of %d deliveries", n)
		switch {
		case n > 20:
			expectZSets(t, "Coalesce"+what, impl.Coalesce([]int{1}, list), nil)
			expectDelivered(t, what, deliveryCase{count, []int{1}, list}, nil, nil)
		case n == 0:
			expectZSets(t, "Coalesce"+what, impl.Coalesce([]int{1}, list), inputs(nil))
			expectDelivered(t, what, deliveryCase{count, []int{1}, list}, inputs(nil, nil), nil)
		default:
			z, total := zset(entry(n, 7)), zset(entry(1, n))
			expectZSets(t, "Coalesce"+what, impl.Coalesce([]int{1}, list), inputs(z))
			expectDelivered(t, what, deliveryCase{count, []int{1}, list}, inputs(z, total), total)
		}
	}
}

func TestP96TheFinalStateDoesNotDependOnHowChangesAreDelivered(t *testing.T) {
	several := 0
	for _, c := range someDeliveryCases(600) {
		what := "DeliverAll" + c.String()
		zs := coalesced(c.widths, c.list)
		values, _ := evaluated(c.plan, zs)
		expectZSets(t, what, impl.DeliverAll(c.plan, c.widths, c.list), values)
		expectZSets(t, what+", reversed", impl.DeliverAll(c.plan, c.widths, reversed(c.list)), values)
		expectZSets(t, "EvalNodes for "+what, impl.EvalNodes(c.plan, c.widths, impl.Coalesce(c.widths, c.list)), values)
		if last := len(c.plan) - 1; last > 2 && len(c.list) > 2 && len(values[last]) > 0 {
			several++
		}
	}
	if several < 50 {
		t.Errorf("only %d plans of several nodes have a result of several deliveries", several)
	}
}

func TestP96P97DeliveriesOfAnySize(t *testing.T) {
	r := newRandom()
	tooLarge := 0
	for range 500 {
		widths := randomWidths(r)
		c := deliveryCase{randomPlan(r, between(r, 1, impl.MaxNodes), widths), widths, randomDeliveries(r, widths, r.IntN(8))}
		for _, d := range c.list {
			for i := range d.Change {
				if r.IntN(3) == 0 {
					d.Change[i].Weight = randomOf(r, []int{impl.MaxWeight, impl.MaxWeight / 2, -impl.MaxWeight})
				}
			}
		}
		state, output := deliveredByDefinition(c.plan, widths, c.list)
		expectDelivered(t, c.String(), c, state, output)
		if !canDeliver(c) {
			tooLarge++
		}
	}
	if tooLarge < 100 {
		t.Errorf("only in %d cases a Z-set cannot be represented", tooLarge)
	}
}

func TestP97TheOutputsAddUpToTheResult(t *testing.T) {
	for _, c := range someDeliveryCases(600) {
		values, _ := evaluated(c.plan, coalesced(c.widths, c.list))
		want := values[len(values)-1]
		state := impl.DeliverAll(c.plan, c.widths, c.list)
		expectZSet(t, "DeliveredOutput"+c.String(), impl.DeliveredOutput(c.plan, c.widths, c.list), want)
		expectZSet(t, "the last value of DeliverAll"+c.String(), state[len(state)-1], want)
	}
}

func TestP97GivenOutputs(t *testing.T) {
	minima := plan(source(0), source(1), joinOf(0, 1, 1), reduceOf(2, 1, impl.Minimum, 2))
	widths := []int{2, 2}
	a, b := entry(1, 1, 5), entry(1, 1, 7)
	cases := []struct {
		name string
		list []impl.Delivery
		want []impl.Entry
	}{
		{"both sides", deliveryList(delivery(0, a), delivery(1, b)), zset(entry(1, 1, 7))},
		{"one side", deliveryList(delivery(0, a)), nil},
		{"a smaller value comes", deliveryList(delivery(1, b), delivery(0, a), delivery(1, entry(1, 1, 3))), zset(entry(1, 1, 3))},
		{"a smaller value comes and goes", deliveryList(delivery(0, a), delivery(1, entry(1, 1, 3)), delivery(1, b), delivery(1, entry(-1, 1, 3))), zset(entry(1, 1, 7))},
		{"all goes", deliveryList(delivery(1, b), delivery(0, a), delivery(0, entry(-1, 1, 5))), nil},
		{"an empty change", deliveryList(delivery(1, b), delivery(0), delivery(0, a), delivery(1)), zset(entry(1, 1, 7))},
		{"negative weights", deliveryList(delivery(1, entry(-1, 1, 7)), delivery(0, entry(-1, 1, 5))), zset(entry(1, 1, 7))},
	}
	for _, c := range cases {
		expectZSet(t, "DeliveredOutput: "+c.name, impl.DeliveredOutput(minima, widths, c.list), c.want)
	}
}

func TestP97PartialSumsThatAreNotZSets(t *testing.T) {
	// The changes of the last node are added up as they are, even if its value becomes empty on the way.
	big := impl.MaxWeight
	list := deliveryList(delivery(0, entry(big, 1)), delivery(0, entry(1, 1)), delivery(0, entry(3, 2)))
	expectDelivered(t, " with a weight too large", deliveryCase{sources()[:1], []int{1}, list}, inputs(zset(entry(3, 2))), zset(entry(3, 2)))
	twice := plan(source(0), unionOf(0, 0), distinctNodeOf(1))
	list = deliveryList(delivery(0, entry(big/2, 1)), delivery(0, entry(big/2, 1)), delivery(0, entry(-1, 1)))
	state := inputs(zset(entry(big-1, 1)), zset(entry(-2, 1)), zset(entry(1, 1)))
	expectDelivered(t, " with a value too large", deliveryCase{twice, []int{1}, list}, state, zset(entry(1, 1)))
}

func TestP98DeliveriesCanBeContinued(t *testing.T) {
	continued := 0
	for _, c := range someDeliveryCases(400) {
		all := impl.DeliverAll(c.plan, c.widths, c.list)
		for n := range len(c.list) + 1 {
			early, late := coalesced(c.widths, c.list[:n]), coalesced(c.widths, c.list[n:])
			before, _ := evaluated(c.plan, early)
			after, _ := evaluated(c.plan, added(early, late))
			if !canStep(c.plan, before, after) {
				continue
			}
			what := fmt.Sprintf("StepPlan after %d deliveries of %v", n, c)
			first := impl.DeliverAll(c.plan, c.widths, c.list[:n])
			state, _ := impl.StepPlan(c.plan, c.widths, first, impl.Coalesce(c.widths, c.list[n:]))
			expectZSets(t, what, state, all)
			continued++
		}
	}
	if continued < 1500 {
		t.Errorf("only %d deliveries are continued", continued)
	}
}

func TestDeliveryFunctionsReturnNewMemory(t *testing.T) {
	all := slices.Concat(sources(), nodesOfEachKind())
	a, b, c := entry(2, 1, 4), entry(1, 1, 4, 7), entry(3, 1, 4)
	list := deliveryList(delivery(0, a), delivery(1, b), delivery(2, c), delivery(0, entry(-1, 2, 5)), delivery(1, entry(3, 2, 5, 5)))
	for n := range len(list) + 1 {
		expectFresh(t, "Coalesce", impl.Coalesce, threeWidths(), list[:n])
	}
	for n := 1; n <= len(all); n++ {
		for from := range 2 {
			expectFresh(t, fmt.Sprintf("DeliverAll of %d nodes", n), impl.DeliverAll, all[:n], threeWidths(), list[from:])
			expectFresh(t, fmt.Sprintf("DeliveredOutput of %d nodes", n), impl.DeliveredOutput, all[:n], threeWidths(), list[:5-from])
		}
	}
	expectFresh(t, "DeliverAll of one delivery", impl.DeliverAll, all[:1], threeWidths(), list[:1])
	expectFresh(t, "DeliveredOutput of one delivery", impl.DeliveredOutput, all[:1], threeWidths(), list[:1])
	expectFresh(t, "DeliverAll without deliveries", impl.DeliverAll, all, threeWidths(), nil)
}
