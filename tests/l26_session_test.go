package tests

import (
	"fmt"
	"math/rand/v2"
	"regexp"
	"slices"
	"strings"
	"testing"

	"loop.example/dataflow/impl"
)

var (
	putLine    = regexp.MustCompile(`^put ([^ ]*) ((?s).*)$`)
	nodeLine   = regexp.MustCompile(`^node ((?s).*)$`)
	indexWord  = regexp.MustCompile(`^(0|[1-9][0-9]{0,8})$`)
	outputLine = regexp.MustCompile(`^[^\n]*\n$`)
)

// sessionModel is the reference for sessions. It keeps all changes that were processed, those undone with opposite signs.
type sessionModel struct {
	plan      []impl.Node
	widths    []int
	state     [][]impl.Entry
	pending   [][]impl.Entry
	processed [][][]impl.Entry
	runs      [][][]impl.Entry
	// isExact reports whether every Z-set on the way can be represented.
	isExact bool
}

func newSessionModel(list []impl.Node, widths []int) *sessionModel {
	return &sessionModel{
		plan: list, widths: widths, isExact: true,
		state: make([][]impl.Entry, len(list)), pending: make([][]impl.Entry, len(widths)),
	}
}

// sums adds up the processed changes one after the other.
func (m *sessionModel) sums() [][]impl.Entry {
	sums := make([][]impl.Entry, len(m.widths))
	for i := range sums {
		var changes [][]impl.Entry
		for _, deltas := range m.processed {
			changes = append(changes, deltas[i])
		}
		sums[i] = addedOneByOne(changes)
	}
	return sums
}

func (m *sessionModel) step(deltas [][]impl.Entry) []impl.Entry {
	sums := m.sums()
	before, tooLargeBefore := evaluated(m.plan, sums)
	after, tooLarge := evaluated(m.plan, added(sums, deltas))
	if slices.ContainsFunc(added(sums, deltas), func(z []impl.Entry) bool { return !impl.ValidZSet(z) }) {
		tooLarge++
	}
	m.isExact = m.isExact && tooLargeBefore == 0 && tooLarge == 0 && canStep(m.plan, before, after)
	m.processed = append(m.processed, deltas)
	next, change := stepByDefinition(m.plan, m.state, deltas)
	m.state = next
	return change
}

func (m *sessionModel) run() string {
	deltas := m.pending
	m.pending = make([][]impl.Entry, len(m.widths))
	m.runs = append(m.runs, deltas)
	return zsetText(m.step(deltas))
}

func (m *sessionModel) undo() string {
	n := len(m.runs)
	if n == 0 {
		return "no"
	}
	m.step(negatedAll(m.runs[n-1]))
	m.runs = m.runs[:n-1]
	return "ok"
}

func (m *sessionModel) check() string {
	values, _ := evaluated(m.plan, m.sums())
	if sameZSet(values[len(values)-1], m.state[len(m.state)-1]) {
		return "same"
	}
	return "different"
}

func (m *sessionModel) put(word string, text string) string {
	z, ok := zsetOfText(text)
	if !ok || !indexWord.MatchString(word) || numberOf(word) >= len(m.widths) {
		return "no"
	}
	i := numberOf(word)
	if len(z) > 0 && len(z[0].Row) != m.widths[i] {
		return "no"
	}
	sum := sumOf(m.pending[i], z)
	if !impl.ValidZSet(sum) {
		sum, m.isExact = nil, false
	}
	m.pending[i] = sum
	return "ok"
}

func (m *sessionModel) node(word string) string {
	if !indexWord.MatchString(word) || numberOf(word) >= len(m.state) {
		return "no"
	}
	return zsetText(m.state[numberOf(word)])
}

// execute returns the output of a line without the newline at its end.
func (m *sessionModel) execute(line string) string {
	switch line {
	case "run":
		return m.run()
	case "undo":
		return m.undo()
	case "show":
		return zsetText(m.state[len(m.state)-1])
	case "check":
		return m.check()
	case "plan":
		return strings.TrimSuffix(planText(m.plan), "\n")
	}
	if parts := putLine.FindStringSubmatch(line); parts != nil {
		return m.put(parts[1], parts[2])
	}
	if parts := nodeLine.FindStringSubmatch(line); parts != nil {
		return m.node(parts[1])
	}
	return "what"
}

// sessionCase is a valid plan with lines.
type sessionCase struct {
	plan   []impl.Node
	widths []int
	lines  []string
}

func (c sessionCase) String() string {
	return fmt.Sprintf("(%v, %v, %q)", c.plan, c.widths, c.lines)
}

func (c sessionCase) output() string {
	return impl.RunSession(c.plan, c.widths, c.lines)
}

// withLines returns a case with more lines.
func (c sessionCase) withLines(lines ...string) sessionCase {
	c.lines = slices.Concat(c.lines, lines)
	return c
}

// expected returns the output of each line, without the newline at its end, and whether the session is exact.
func (c sessionCase) expected() ([]string, bool) {
	m := newSessionModel(c.plan, c.widths)
	var output []string
	for i, line := range c.lines {
		if i < 30 {
			output = append(output, m.execute(line))
		}
	}
	return output, m.isExact
}

// linesOf returns lines as they are printed.
func linesOf(lines ...string) string {
	var text string
	for _, line := range lines {
		text += line + "\n"
	}
	return text
}

func expectSession(t *testing.T, what string, c sessionCase, want ...string) {
	t.Helper()
	if got := c.output(); got != linesOf(want...) {
		t.Errorf("%s: RunSession%v = %q, want %q", what, c, got, linesOf(want...))
	}
}

// randomLine returns a line that is known, or a similar one.
func randomLine(r *rand.Rand, list []impl.Node, widths []int) string {
	switch r.IntN(16) {
	case 0, 1, 2, 3, 4:
		input := r.IntN(len(widths))
		return fmt.Sprintf("put %d %s", input, zsetText(randomZSet(r, widths[input])))
	case 5, 6, 7:
		return "run"
	case 8, 9:
		return "undo"
	case 10:
		return "show"
	case 11:
		return fmt.Sprintf("node %d", r.IntN(len(list)))
	case 12:
		return "check"
	case 13:
		return "plan"
	case 14:
		return fmt.Sprintf("put %d %s", between(r, -1, 3), zsetText(randomZSet(r, between(r, 1, 3))))
	}
	return mangled(r, randomOf(r, []string{"put 0 ", "put 0 1*1;", "put 1 1*1;", "run", "undo", "show", "node 0", "node 11", "check", "plan"}), "0123 x\n-")
}

// heavyLine returns a line that puts a Z-set with weights of which two may already be too large together.
func heavyLine(r *rand.Rand, widths []int) string {
	input := r.IntN(len(widths))
	z := randomZSet(r, widths[input])
	for i := range z {
		z[i].Weight = randomOf(r, []int{impl.MaxWeight, impl.MaxWeight, impl.MaxWeight / 2, -impl.MaxWeight})
	}
	return fmt.Sprintf("put %d %s", input, zsetText(z))
}

// randomSession returns a plan with up to n lines.
func randomSession(r *rand.Rand, n int) sessionCase {
	widths := randomWidths(r)
	c := sessionCase{plan: randomPlan(r, between(r, 1, impl.MaxNodes), widths), widths: widths}
	for range r.IntN(n + 1) {
		c.lines = append(c.lines, randomLine(r, c.plan, widths))
	}
	return c
}

// sourceSession returns lines for a plan with only one input, which has rows of one value.
func sourceSession(lines ...string) sessionCase {
	return sessionCase{plan(source(0)), []int{1}, lines}
}

func TestP129SessionsAreAsDefined(t *testing.T) {
	r := newRandom()
	counts := map[string]int{}
	for n := range 2000 {
		c := randomSession(r, 40)
		for i := range c.lines {
			if n%2 == 0 && r.IntN(6) == 0 {
				c.lines[i] = heavyLine(r, c.widths)
			}
		}
		want, _ := c.expected()
		expectSession(t, "random", c, want...)
		for i, line := range want {
			if slices.Contains([]string{"ok", "no", "same", "different", "what", ""}, line) {
				counts[line]++
			} else if c.lines[i] == "run" {
				counts["a change"]++
			}
		}
	}
	for _, line := range []string{"ok", "no", "same", "what", "", "a change"} {
		if counts[line] < 500 {
			t.Errorf("%q is printed %d times", line, counts[line])
		}
	}
	if counts["different"] < 20 {
		t.Errorf("different is printed %d times", counts["different"])
	}
}

func TestP129OutputDependsOnlyOnPrecedingLines(t *testing.T) {
	r := newRandom()
	for range 200 {
		c := randomSession(r, 35)
		whole, before := c.output(), ""
		for n := range len(c.lines) + 1 {
			first := sessionCase{c.plan, c.widths, c.lines[:n]}.output()
			if !strings.HasPrefix(whole, first) {
				t.Errorf("the output of the first %d lines of %v is %q, of all %q", n, c, first, whole)
			}
			more := strings.TrimPrefix(first, before)
			if n > 0 && n <= 30 && c.lines[n-1] != "plan" && !outputLine.MatchString(more) || n > 30 && more != "" {
				t.Errorf("line %d of %v prints %q", n, c, more)
			}
			before = first
		}
	}
	expectSession(t, "no lines", sourceSession())
}

func TestP129LimitOfLines(t *testing.T) {
	if impl.MaxLines != 30 {
		t.Errorf("MaxLines = %d", impl.MaxLines)
	}
	for _, line := range []string{"run", "undo", "show", "check", "plan", "node 0", "node 1", "put 0 1*1;", "put 0 ", "x", ""} {
		c := sourceSession(line)
		one := strings.TrimSuffix(c.output(), "\n")
		for _, n := range []int{1, 2, 29, 30, 31, 32, 60, 1000} {
			c.lines = slices.Repeat([]string{line}, n)
			expectSession(t, fmt.Sprintf("%d lines", n), c, slices.Repeat([]string{one}, min(n, 30))...)
		}
	}
	for n := range 35 {
		empty := slices.Repeat([]string{""}, n)
		c := sourceSession(empty...).withLines("put 0 1*2;", "run", "show")
		want := append(slices.Repeat([]string{"what"}, n), "ok", "1*2;", "1*2;")
		expectSession(t, fmt.Sprintf("%d unknown lines first", n), c, want[:min(len(want), 30)]...)
	}
}

func TestP129InvalidPlans(t *testing.T) {
	lines := []string{"put 0 1*1;", "run", "show", "plan", "check", "x"}
	for n := range len(lines) + 1 {
		for name, node := range invalidLastNodes() {
			if got := impl.RunSession(append(sources(), node), threeWidths(), lines[:n]); got != "wrong\n" {
				t.Errorf("RunSession: %s = %q", name, got)
			}
		}
		for _, list := range [][]impl.Node{nil, {}, longestPlan(1)} {
			expectSession(t, "the number of nodes", sessionCase{list, []int{1}, lines[:n]}, "wrong")
		}
		for _, widths := range badWidths() {
			expectSession(t, "widths", sessionCase{sources()[:1], widths, lines[:n]}, "wrong")
		}
	}
	expectSession(t, "many lines", sessionCase{nil, []int{1}, slices.Repeat(lines, 10)}, "wrong")
}

// givenPlan joins two inputs and adds up a column, with other nodes on the way.
func givenPlan(lines ...string) sessionCase {
	list := plan(source(0), source(1), joinOf(0, 1, 1), reduceOf(2, 1, impl.Sum, 1))
	return sessionCase{list, []int{1, 2}, lines}
}

func TestP129Lines(t *testing.T) {
	cases := []struct{ line, want string }{
		{"put 0 1*1;", "ok"}, {"put 1 1,2*1;3,4*-5;", "ok"}, {"put 0 ", "ok"}, {"put 1 ", "ok"},
		{"put 2 1*1;", "no"}, {"put 2 ", "no"}, {"put -1 ", "no"}, {"put 00 ", "no"}, {"put 01 ", "no"}, {"put +0 ", "no"}, {"put -0 ", "no"}, {"put x ", "no"}, {"put  ", "no"}, {"put  0", "no"}, {"put  1*1;", "no"},
		{"put 0x0 ", "no"}, {"put 0. ", "no"}, {"put 99999999999999999999 ", "no"}, {"put \uff10 ", "no"}, {"put 4294967296 ", "no"}, {"put 0\n ", "no"},
		{"put 0 1,2*1;", "no"}, {"put 1 1*1;", "no"}, {"put 1 1,2,3*1;", "no"},
		{"put 0 x", "no"}, {"put 0  ", "no"}, {"put 0  1*1;", "no"}, {"put 0 1*1; ", "no"}, {"put 0 1*1", "no"}, {"put 0 2*1;1*1;", "no"}, {"put 0 1*0;", "no"}, {"put 0 1*1;\n", "no"}, {"put 0 01*1;", "no"}, {"put 0 1*1;1*1;", "no"},
		{"put 0", "what"}, {"put", "what"}, {"put ", "what"}, {"put x", "what"}, {"put 1*1;", "what"}, {"put0 1*1;", "what"}, {"Put 0 1*1;", "what"}, {" put 0 1*1;", "what"}, {"put\t0 1*1;", "what"}, {"put,0 1*1;", "what"}, {"puts 0 1*1;", "what"},
		{"node 0", ""}, {"node 3", ""}, {"node 4", "no"}, {"node 12", "no"}, {"node -1", "no"}, {"node 00", "no"}, {"node 01", "no"}, {"node +1", "no"}, {"node -0", "no"}, {"node ", "no"}, {"node x", "no"}, {"node  0", "no"}, {"node 0 ", "no"},
		{"node 0x0", "no"}, {"node 99999999999999999999", "no"}, {"node 1\n", "no"},
		{"node", "what"}, {"node0", "what"}, {"nodes 0", "what"}, {"NODE 0", "what"}, {" node 0", "what"}, {"node\t0", "what"},
		{"run", ""}, {"show", ""}, {"undo", "no"}, {"check", "same"},
		{"plan", "source 0\nsource 1\njoin 0 1 1\nreduce 2 1 2 1"},
		{"", "what"}, {" ", "what"}, {"run ", "what"}, {" run", "what"}, {"run 0", "what"}, {"run run", "what"}, {"Run", "what"}, {"run\n", "what"}, {"runs", "what"}, {"undo ", "what"}, {"undo 1", "what"}, {"show ", "what"}, {"show 0", "what"},
		{"check ", "what"}, {"plan ", "what"}, {"plan 0", "what"}, {"help", "what"}, {"ok", "what"}, {"wrong", "what"}, {"\x00", "what"}, {"\xff", "what"}, {"\n", "what"}, {"put 0 1*1;run", "no"}, {"run\nrun", "what"},
	}
	for _, c := range cases {
		expectSession(t, "alone", givenPlan(c.line), c.want)
		got, _ := givenPlan(c.line).expected()
		if got[0] != c.want {
			t.Errorf("the reference prints %q for %q", got[0], c.line)
		}
		// A line that fails changes nothing.
		if c.want == "no" || c.want == "what" {
			setUp := []string{"put 0 1*2;", "put 1 1,5*1;", "run", "put 0 2*1;", "put 1 2,6*1;"}
			want := []string{"ok", "ok", "1,10*1;", "ok", "ok", c.want, "2,6*1;", "1,10*1;2,6*1;", "same"}
			if c.line != "undo" {
				expectSession(t, "after others", givenPlan(setUp...).withLines(c.line, "run", "show", "check"), want...)
			}
		}
	}
}

func TestP129GivenSessions(t *testing.T) {
	cases := []struct {
		name        string
		lines, want []string
	}{
		{"changes of both inputs",
			[]string{"put 0 1*2;3*1;", "put 1 1,5*1;1,7*1;", "show", "run", "show", "node 0", "node 1", "node 2", "node 3"},
			[]string{"ok", "ok", "", "1,24*1;", "1,24*1;", "1*2;3*1;", "1,5*1;1,7*1;", "1,5*2;1,7*2;", "1,24*1;"}},
		{"changes in several runs",
			[]string{"put 0 1*1;", "run", "put 1 1,5*1;", "run", "put 1 1,6*1;", "run", "put 0 1*-1;", "run", "show"},
			[]string{"ok", "", "ok", "1,5*1;", "ok", "1,5*-1;1,11*1;", "ok", "1,11*-1;", ""}},
		{"pending changes add up",
			[]string{"put 0 1*1;", "put 1 1,5*1;", "put 0 1*2;", "put 0 ", "run", "run", "node 0"},
			[]string{"ok", "ok", "ok", "ok", "1,15*1;", "", "1*3;"}},
		{"pending changes cancel",
			[]string{"put 0 1*1;2*1;", "put 0 1*-1;", "run", "node 0"},
			[]string{"ok", "ok", "", "2*1;"}},
		{"nothing is shown before the run",
			[]string{"put 0 1*1;", "put 1 1,5*1;", "show", "node 0", "check", "undo"},
			[]string{"ok", "ok", "", "", "same", "no"}},
		{"undo takes back the last run",
			[]string{"put 0 1*1;", "put 1 1,5*1;", "run", "undo", "show", "node 1", "run", "undo", "undo"},
			[]string{"ok", "ok", "1,5*1;", "ok", "", "", "", "ok", "no"}},
		{"undo takes back one run after the other",
			[]string{"put 0 1*1;", "run", "put 0 1*2;", "run", "put 0 1*4;", "run", "undo", "node 0", "undo", "node 0", "undo", "node 0", "undo"},
			[]string{"ok", "", "ok", "", "ok", "", "ok", "1*3;", "ok", "1*1;", "ok", "", "no"}},
		{"a run after undo",
			[]string{"put 0 1*1;", "run", "put 0 1*2;", "run", "undo", "put 0 1*4;", "run", "node 0", "undo", "node 0", "undo", "node 0", "check", "undo"},
			[]string{"ok", "", "ok", "", "ok", "ok", "", "1*5;", "ok", "1*1;", "ok", "", "same", "no"}},
		{"undo of a run without changes",
			[]string{"put 0 1*1;", "run", "run", "undo", "node 0", "undo", "node 0", "undo"},
			[]string{"ok", "", "", "ok", "1*1;", "ok", "", "no"}},
		{"undo keeps pending changes",
			[]string{"put 0 1*1;", "put 1 1,5*1;", "run", "put 0 1*3;", "undo", "show", "run", "node 0", "node 1"},
			[]string{"ok", "ok", "1,5*1;", "ok", "ok", "", "", "1*3;", ""}},
		{"undo without a run keeps pending changes",
			[]string{"put 0 1*3;", "undo", "run", "node 0"},
			[]string{"ok", "no", "", "1*3;"}},
		{"lines that fail keep pending changes",
			[]string{"put 0 1*3;", "put 0 x", "put 0 1,1*1;", "put 7 ", "put 0", "run", "node 0"},
			[]string{"ok", "no", "no", "no", "what", "", "1*3;"}},
		{"check does not change anything",
			[]string{"put 0 1*1;", "check", "put 1 1,5*1;", "check", "run", "check", "undo", "check", "show"},
			[]string{"ok", "same", "ok", "same", "1,5*1;", "same", "ok", "same", ""}},
	}
	for _, c := range cases {
		expectSession(t, c.name, givenPlan(c.lines...), c.want...)
		got, isExact := givenPlan(c.lines...).expected()
		if !isExact || !slices.Equal(got, c.want) {
			t.Errorf("the reference prints %q for %q", got, c.lines)
		}
	}
}

func TestP130TheIncrementalResultIsAlwaysTheResult(t *testing.T) {
	r := newRandom()
	runs := 0
	for range 3000 {
		c := randomSession(r, 5).withLines("check")
		want, isExact := c.expected()
		if !isExact {
			continue
		}
		expectSession(t, "exact", c, want...)
		if !strings.HasSuffix(c.output(), "same\n") {
			t.Errorf("check does not print same in %v", c)
		}
		if slices.Contains(c.lines, "run") {
			runs++
		}
	}
	if runs < 1000 {
		t.Errorf("only %d sessions have a run", runs)
	}
}

func TestP130ZSetsThatCannotBeRepresented(t *testing.T) {
	distinct := sessionCase{plan(source(0), distinctNodeOf(0)), []int{1}, nil}
	counted := sessionCase{plan(source(0), reduceOf(0, 0, impl.Count, 0)), []int{1}, nil}
	cases := []struct {
		name        string
		c           sessionCase
		isExact     bool
		lines, want []string
	}{
		{"a pending change with the largest weight", sourceSession(), true,
			[]string{"put 0 1*999999;", "put 0 1*1;", "run", "check"},
			[]string{"ok", "ok", "1*1000000;", "same"}},
		{"a pending change with a weight too large", sourceSession(), false,
			[]string{"put 0 1*1000000;", "put 0 1*1;", "run", "put 0 1*1000000;", "put 0 1*1;", "put 0 1*2;", "run"},
			[]string{"ok", "ok", "", "ok", "ok", "ok", "1*2;"}},
		{"an input with a weight too large", sourceSession(), false,
			[]string{"put 0 1*1000000;", "run", "put 0 1*1;", "run", "show", "check", "undo", "show", "check"},
			[]string{"ok", "1*1000000;", "ok", "1*1;", "", "same", "ok", "1*-1;", "same"}},
		{"a row that stays distinct", distinct, false,
			[]string{"put 0 1*1000000;", "run", "put 0 1*1;", "run", "show", "node 0", "check", "undo", "show", "node 0", "check"},
			[]string{"ok", "1*1;", "ok", "", "1*1;", "", "different", "ok", "1*1;", "1*-1;", "different"}},
		{"a count that is too large", counted, false,
			[]string{"put 0 1*9999;", "run", "put 0 2*1;", "run", "show", "check", "put 0 1*-1;", "run", "show", "check"},
			[]string{"ok", "9999*1;", "ok", "9999*-1;", "", "same", "ok", "9999*1;", "9999*1;", "same"}},
		{"a row that stays distinct, and changes after that", distinct, false,
			[]string{"put 0 1*1000000;", "run", "put 0 1*1;", "run", "check", "put 0 1*5;", "run", "check", "show"},
			[]string{"ok", "1*1;", "ok", "", "different", "ok", "1*1;", "different", "1*2;"}},
		{"undo after a weight that is too large", distinct, false,
			[]string{"put 0 1*1000000;", "run", "put 0 1*1;", "run", "undo", "undo", "show", "node 0", "check", "undo"},
			[]string{"ok", "1*1;", "ok", "", "ok", "ok", "1*1;", "", "different", "no"}},
	}
	for _, c := range cases {
		s := c.c.withLines(c.lines...)
		want, isExact := s.expected()
		if isExact != c.isExact || !slices.Equal(want, c.want) {
			t.Errorf("%s: the reference prints %q, not %q; exact: %v", c.name, want, c.want, isExact)
		}
		expectSession(t, c.name, s, c.want...)
	}
}

func TestP131UndoTakesBackTheLastRun(t *testing.T) {
	r := newRandom()
	changed := 0
	for range 3000 {
		before := randomSession(r, 3)
		after := before.withLines("run", "undo")
		if _, isExact := after.expected(); !isExact {
			continue
		}
		shown := strings.TrimPrefix(before.withLines("show").output(), before.output())
		again := strings.TrimPrefix(after.withLines("show").output(), after.output())
		if shown != again {
			t.Errorf("show prints %q before run and undo, and %q after it: %v", shown, again, before)
		}
		for i := range before.plan {
			line := fmt.Sprintf("node %d", i)
			shown = strings.TrimPrefix(before.withLines(line).output(), before.output())
			again = strings.TrimPrefix(after.withLines(line).output(), after.output())
			if shown != again {
				t.Errorf("%s prints %q before run and undo, and %q after it: %v", line, shown, again, before)
			}
		}
		if run := before.withLines("run"); strings.TrimPrefix(run.output(), before.output()) != "\n" {
			changed++
		}
	}
	if changed < 300 {
		t.Errorf("only %d runs change something", changed)
	}
}

func TestP131UndoOfEachRun(t *testing.T) {
	r := newRandom()
	for range 200 {
		widths := randomWidths(r)
		c := sessionCase{plan: randomPlan(r, between(r, 1, impl.MaxNodes), widths), widths: widths}
		shown := []string{""}
		for range 4 {
			input := r.IntN(len(widths))
			c = c.withLines(fmt.Sprintf("put %d %s", input, zsetText(randomZSet(r, widths[input]))), "run")
			shown = append(shown, strings.TrimSuffix(strings.TrimPrefix(c.withLines("show").output(), c.output()), "\n"))
		}
		output := c.output()
		if _, isExact := c.withLines("undo", "undo", "undo", "undo").expected(); !isExact {
			continue
		}
		slices.Reverse(shown)
		want := linesOf(shown[0], "ok", shown[1], "ok", shown[2], "ok", shown[3], "ok", shown[4], "no")
		all := c.withLines("show", "undo", "show", "undo", "show", "undo", "show", "undo", "show", "undo")
		if got := strings.TrimPrefix(all.output(), output); got != want {
			t.Errorf("undo and show print %q, want %q: %v", got, want, c)
		}
	}
}

func TestSessionsDoNotChangeTheirArguments(t *testing.T) {
	all := slices.Concat(sources(), nodesOfEachKind())
	expectUnchanged(t, "RunSession", impl.RunSession, all, threeWidths(), []string{"put 0 1,4*2;", "run", "undo", "show", "plan"})
}
