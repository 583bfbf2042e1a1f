package tests

import (
	"fmt"
	"math/rand/v2"
	"regexp"
	"slices"
	"strconv"
	"strings"
	"testing"

	"loop.example/dataflow/impl"
)

// zsetText is the reference for EncodeZSet. It is defined for all entries.
func zsetText(entries []impl.Entry) string {
	var text string
	for _, e := range entries {
		text += fmt.Sprintf("%s*%d;", strings.Join(texts(e.Row), ","), e.Weight)
	}
	return text
}

// patternOf returns a pattern in which each N stands for a number in its only form.
func patternOf(text string) *regexp.Regexp {
	return regexp.MustCompile(strings.ReplaceAll(text, "N", "(?:0|-?[1-9][0-9]{0,17})"))
}

// textOfEntries is a text of entries, which need not be those of a Z-set.
var textOfEntries = patternOf(`^(?:N(?:,N)*\*N;)*$`)

func numberOf(word string) int {
	number, err := strconv.Atoi(word)
	if err != nil {
		panic(err)
	}
	return number
}

// zsetOfText is the reference for DecodeZSet.
func zsetOfText(text string) ([]impl.Entry, bool) {
	if !textOfEntries.MatchString(text) {
		return nil, false
	}
	var z []impl.Entry
	for _, part := range strings.FieldsFunc(text, func(c rune) bool { return c == ';' }) {
		row, weight, _ := strings.Cut(part, "*")
		e := impl.Entry{Weight: numberOf(weight)}
		for _, value := range strings.Split(row, ",") {
			e.Row = append(e.Row, numberOf(value))
		}
		z = append(z, e)
	}
	return z, impl.ValidZSet(z)
}

func expectDecoded(t *testing.T, text string, want []impl.Entry) {
	t.Helper()
	if z, ok := impl.DecodeZSet(text); !ok || !sameZSet(z, want) {
		t.Errorf("DecodeZSet(%.200q) = %v, %v, want %v", text, z, ok, want)
	}
}

func expectNotDecoded(t *testing.T, text string) {
	t.Helper()
	if z, ok := impl.DecodeZSet(text); ok || len(z) > 0 {
		t.Errorf("DecodeZSet(%.200q) = %v, %v", text, z, ok)
	}
}

// textZSets has Z-sets of all widths, with extreme values and weights, and random ones.
func textZSets() [][]impl.Entry {
	top, big := impl.MaxValue, impl.MaxWeight
	list := [][]impl.Entry{
		nil,
		{},
		zset(entry(1, 0)),
		zset(entry(-1, 0, 0)),
		zset(entry(big, -top), entry(-big, top)),
		zset(entry(10, -10), entry(100, 10), entry(1000, 100)),
		numbered(1, impl.MaxEntries, -1),
		numbered(-200, 199, big),
	}
	for width := 1; width <= impl.MaxWidth; width++ {
		list = append(list, zset(entry(-big, repeated(width, -top)...), entry(7, repeated(width, 0)...), entry(big, repeated(width, top)...)))
	}
	r := newRandom()
	for range 300 {
		list = append(list, randomZSet(r, between(r, 1, impl.MaxWidth)))
	}
	for range 20 {
		list = append(list, largeZSet(r, between(r, 1, impl.MaxWidth)))
	}
	return list
}

// mangled returns a text with one to three changes: characters of an alphabet come, go, or take the place of others.
func mangled(r *rand.Rand, text string, alphabet string) string {
	for range between(r, 1, 3) {
		place := r.IntN(len(text) + 1)
		end := min(len(text), place+r.IntN(2))
		var more string
		if r.IntN(3) > 0 {
			more = string(alphabet[r.IntN(len(alphabet))])
		}
		text = text[:place] + more + text[end:]
	}
	return text
}

func TestP113DecodingAZSetInvertsEncoding(t *testing.T) {
	for _, z := range textZSets() {
		text := impl.EncodeZSet(z)
		if text != zsetText(z) {
			t.Errorf("EncodeZSet(%v) = %q, want %q", z, text, zsetText(z))
		}
		expectDecoded(t, zsetText(z), z)
	}
	given := zset(entry(3, 1, 2), entry(-1, 2, 0), entry(impl.MaxWeight, 2, 1))
	if text := impl.EncodeZSet(given); text != "1,2*3;2,0*-1;2,1*1000000;" {
		t.Errorf("EncodeZSet(%v) = %q", given, text)
	}
	expectDecoded(t, "-9999,0,10*-1000000;", zset(entry(-impl.MaxWeight, -impl.MaxValue, 0, 10)))
	expectDecoded(t, "", nil)
}

func TestP113WhatIsNotAZSet(t *testing.T) {
	for name, z := range invalidZSets() {
		if text := impl.EncodeZSet(z); text != "" {
			t.Errorf("EncodeZSet: %s = %q", name, text)
		}
		expectNotDecoded(t, zsetText(z))
	}
}

func TestP114TheTextFormOfZSetsIsCanonical(t *testing.T) {
	r := newRandom()
	list := textZSets()
	counts := map[bool]int{}
	for range 30000 {
		text := mangled(r, zsetText(randomOf(r, list)), "0123456789-+,*; \n.x")
		want, ok := zsetOfText(text)
		counts[ok]++
		if !ok {
			expectNotDecoded(t, text)
			continue
		}
		expectDecoded(t, text, want)
		z, _ := impl.DecodeZSet(text)
		if !impl.ValidZSet(z) || impl.EncodeZSet(z) != text {
			t.Errorf("EncodeZSet of DecodeZSet(%q) = %q", text, impl.EncodeZSet(z))
		}
	}
	if counts[true] < 2000 || counts[false] < 10000 {
		t.Errorf("texts that are decoded: %v", counts)
	}
}

// Every short text is either decoded as the reference does, or rejected.
func TestP114ShortTexts(t *testing.T) {
	list := []string{""}
	for range 6 {
		var longer []string
		for _, text := range list {
			for _, c := range "-0,12*;" {
				longer = append(longer, text+string(c))
			}
		}
		list = longer
		for _, text := range list {
			z, ok := impl.DecodeZSet(text)
			if ok && (!impl.ValidZSet(z) || zsetText(z) != text) || !ok && len(z) > 0 {
				t.Fatalf("DecodeZSet(%q) = %v, %v", text, z, ok)
			}
		}
	}
	for _, text := range []string{"0*1;", "1*2;", "-1*2;", "1*-2;", "1,2*1;", "12*1;", "1*12;", "1*10;"} {
		expectDecoded(t, text, must(zsetOfText(text)))
	}
}

// must returns a value that a reference function has.
func must[T any](value T, ok bool) T {
	if !ok {
		panic("the reference has no value")
	}
	return value
}

func TestP114TextsThatAreNotOfAZSet(t *testing.T) {
	list := []string{
		";", "*", ",", "1", "1*", "1*;", "1;", "*1;", "*;", ",*1;", "1,*1;", ",1*1;", "1*1", "1*1;;", ";1*1;", "1**1;", "1*1*1;", "1,2;",
		"1*1;2", "1*1;2*", "1*1;2*1", "1*1;2*1;x", "1*1,2;", "1;1*1;", "1*1:", "1x1;",
		"1*0;", "1*-0;", "1*+1;", "1*01;", "1*--1;", "1*1000001;", "1*-1000001;", "1*9223372036854775808;", "1*99999999999999999999;", "1*1e2;", "1*1.0;", "1*0x1;", "1*1_0;",
		"01*1;", "-0*1;", "+1*1;", "00*1;", "--1*1;", "10000*1;", "-10000*1;", "9223372036854775808*1;", "0x1*1;", "1_0*1;", "1.5*1;",
		"1,2,3,4,5,6,7*1;", "1,2,3,4,5,06*1;", "1,2,3,4,5,6,*1;",
		"2*1;1*1;", "1*1;1*1;", "1*1;1*-1;", "1*1;1,2*1;", "1,2*1;2*1;", "1,2*1;1,1*1;",
		" 1*1;", "1*1; ", "1 *1;", "1* 1;", "1*1 ;", "1*1;\n", "\n1*1;", "1*1;\r\n", "1*1;\t2*1;", "1, 2*1;", "1*1; 2*1;",
		"\x00", "1*1;\x00", "1\x00*1;", "\xff", "\u0661*1;", "\uff11*1;", "1\u00d71;", "1*\u22121;", "a*1;", "1*b;",
		" ", "\n", "empty", "ok",
		zsetText(numbered(1, impl.MaxEntries+1, 1)),
		zsetText(numbered(1, impl.MaxEntries, 1)) + "401*1",
		zsetText(numbered(1, impl.MaxEntries, 1)) + ";",
		strings.Repeat("1*1;", 100000), strings.Repeat("1,", 100000) + "1*1;", strings.Repeat("9", 1000000) + "*1;", "1*" + strings.Repeat("9", 1000000) + ";",
		strings.Repeat(";", 1000000), strings.Repeat("*", 1000000), strings.Repeat(" ", 1000000),
	}
	for _, text := range list {
		expectNotDecoded(t, text)
	}
	expectDecoded(t, zsetText(numbered(1, impl.MaxEntries, 1)), numbered(1, impl.MaxEntries, 1))
}

// nodeText is the reference for the line of a node. It is defined for each of the eight kinds.
func nodeText(n impl.Node) string {
	switch n.Kind {
	case 1:
		return fmt.Sprintf("source %d\n", n.A)
	case 2:
		return fmt.Sprintf("filter %d %d %d %d\n", n.A, n.Pred.Col, n.Pred.Kind, n.Pred.Value)
	case 3:
		return strings.Join(append([]string{"map", fmt.Sprint(n.A)}, texts(n.Cols)...), " ") + "\n"
	case 4:
		return fmt.Sprintf("union %d %d\n", n.A, n.B)
	case 5:
		return fmt.Sprintf("negate %d\n", n.A)
	case 6:
		return fmt.Sprintf("join %d %d %d\n", n.A, n.B, n.Key)
	case 7:
		return fmt.Sprintf("distinct %d\n", n.A)
	default:
		return fmt.Sprintf("reduce %d %d %d %d\n", n.A, n.Key, n.Agg, n.Col)
	}
}

func planText(list []impl.Node) string {
	var text string
	for _, n := range list {
		text += nodeText(n)
	}
	return text
}

// textOfNodes is a text of nodes, which need not be those of a plan.
var textOfNodes = patternOf(`^(?:(?:source|negate|distinct) N\n|union N N\n|join N N N\n|(?:filter|reduce) N N N N\n|map N(?: N)*\n)*$`)

func nodeOfWords(word string, numbers []int) impl.Node {
	switch word {
	case "source":
		return source(numbers[0])
	case "filter":
		return filterOf(numbers[0], predicate(numbers[1], numbers[2], numbers[3]))
	case "map":
		return mapOf(numbers[0], numbers[1:]...)
	case "union":
		return unionOf(numbers[0], numbers[1])
	case "negate":
		return negateOf(numbers[0])
	case "join":
		return joinOf(numbers[0], numbers[1], numbers[2])
	case "distinct":
		return distinctNodeOf(numbers[0])
	default:
		return reduceOf(numbers[0], numbers[1], numbers[2], numbers[3])
	}
}

// planOfText is the reference for DecodePlan, for valid widths.
func planOfText(text string, widths []int) ([]impl.Node, bool) {
	if !textOfNodes.MatchString(text) {
		return nil, false
	}
	var list []impl.Node
	for line := range strings.Lines(text) {
		words := strings.Fields(line)
		var numbers []int
		for _, word := range words[1:] {
			numbers = append(numbers, numberOf(word))
		}
		list = append(list, nodeOfWords(words[0], numbers))
	}
	return list, len(widthsOf(list, widths)) > 0
}

func expectDecodedPlan(t *testing.T, text string, widths []int, want []impl.Node) {
	t.Helper()
	if list, ok := impl.DecodePlan(text, widths); !ok || !slices.EqualFunc(list, want, sameNode) {
		t.Errorf("DecodePlan(%.200q, %v) = %v, %v, want %v", text, widths, list, ok, want)
	}
}

func expectNotDecodedPlan(t *testing.T, text string, widths []int) {
	t.Helper()
	if list, ok := impl.DecodePlan(text, widths); ok || len(list) > 0 {
		t.Errorf("DecodePlan(%.200q, %v) = %v, %v", text, widths, list, ok)
	}
}

func expectEncodedPlan(t *testing.T, list []impl.Node, widths []int, want string) {
	t.Helper()
	if text := impl.EncodePlan(list, widths); text != want {
		t.Errorf("EncodePlan(%v, %v) = %q, want %q", list, widths, text, want)
	}
}

// planCase is a valid plan for the widths.
type planCase struct {
	plan   []impl.Node
	widths []int
}

// textPlans has plans with each kind of node, with extreme fields, and random ones.
func textPlans() []planCase {
	widest := []int{impl.MaxWidth}
	list := []planCase{
		{slices.Concat(sources(), nodesOfEachKind()), threeWidths()},
		{longestPlan(0), []int{1}},
		{plan(source(0)), widest},
		{plan(source(2)), threeWidths()},
		{plan(source(0), mapOf(0, 5, 0, 5, 1, 2, 3), mapOf(1, 4)), widest},
		{plan(source(0), filterOf(0, predicate(5, impl.Less, -impl.MaxValue)), filterOf(1, predicate(0, impl.Greater, impl.MaxValue))), widest},
		{plan(source(0), filterOf(0, predicate(0, impl.Equal, 0)), joinOf(1, 0, impl.MaxWidth)), widest},
		{plan(source(0), reduceOf(0, 0, impl.Maximum, 5), reduceOf(0, 5, impl.Minimum, 0), joinOf(1, 1, 0)), widest},
		{append(longestPlan(-1), unionOf(10, 9)), []int{2}},
	}
	r := newRandom()
	for range 1000 {
		widths := randomWidths(r)
		list = append(list, planCase{randomPlan(r, between(r, 1, impl.MaxNodes), widths), widths})
	}
	return list
}

func TestP115DecodingAPlanInvertsEncoding(t *testing.T) {
	for _, c := range textPlans() {
		expectEncodedPlan(t, c.plan, c.widths, planText(c.plan))
		expectDecodedPlan(t, planText(c.plan), c.widths, c.plan)
	}
	all := slices.Concat(sources(), nodesOfEachKind())
	text := "source 0\nsource 1\nsource 2\nsource 1\nfilter 1 2 4 5\nmap 1 2 0 0 1\nunion 2 0\nnegate 1\njoin 1 2 1\ndistinct 2\nreduce 1 2 2 2\n"
	expectEncodedPlan(t, all, threeWidths(), text)
	expectDecodedPlan(t, text, threeWidths(), all)
	expectEncodedPlan(t, plan(impl.Node{Kind: impl.Source, Cols: []int{}}), []int{2}, "source 0\n")
	longest := longestPlan(0)
	expectDecodedPlan(t, planText(longest), []int{3}, longest)
}

func TestP115InvalidPlansHaveNoText(t *testing.T) {
	for name, n := range invalidLastNodes() {
		list := append(sources(), n)
		if text := impl.EncodePlan(list, threeWidths()); text != "" {
			t.Errorf("EncodePlan: %s = %q", name, text)
		}
		if n.Kind >= 1 && n.Kind <= 8 && hasListedFields(n) {
			expectNotDecodedPlan(t, planText(list), threeWidths())
		}
	}
	for _, list := range [][]impl.Node{nil, {}, longestPlan(1), longestPlan(100)} {
		expectEncodedPlan(t, list, []int{2}, "")
		expectNotDecodedPlan(t, planText(list), []int{2})
	}
	for _, widths := range badWidths() {
		expectEncodedPlan(t, sources()[:1], widths, "")
		expectNotDecodedPlan(t, "source 0\n", widths)
		expectNotDecodedPlan(t, "", widths)
	}
	// The same plan is valid for some widths only.
	join := plan(source(0), joinOf(0, 0, 1))
	for width := 1; width <= impl.MaxWidth; width++ {
		if 2*width-1 <= impl.MaxWidth {
			expectDecodedPlan(t, planText(join), []int{width}, join)
			continue
		}
		expectEncodedPlan(t, join, []int{width}, "")
		expectNotDecodedPlan(t, planText(join), []int{width})
	}
	expectNotDecodedPlan(t, planText(sources()), threeWidths()[:2])
}

func TestP116TheTextFormOfPlansIsCanonical(t *testing.T) {
	r := newRandom()
	list := textPlans()
	counts := map[bool]int{}
	for range 30000 {
		c := randomOf(r, list)
		text := mangled(r, planText(c.plan), "0123456789- \n+x")
		want, ok := planOfText(text, c.widths)
		counts[ok]++
		if !ok {
			expectNotDecodedPlan(t, text, c.widths)
			continue
		}
		expectDecodedPlan(t, text, c.widths, want)
		decoded, _ := impl.DecodePlan(text, c.widths)
		if len(impl.PlanWidths(decoded, c.widths)) == 0 {
			t.Errorf("DecodePlan(%q, %v) is not valid", text, c.widths)
		}
		expectEncodedPlan(t, decoded, c.widths, text)
	}
	if counts[true] < 1000 || counts[false] < 10000 {
		t.Errorf("texts that are decoded: %v", counts)
	}
}

func TestP116TextsThatAreNotOfAPlan(t *testing.T) {
	lines := []string{
		"", " ", "source", "source ", "source  0", " source 0", "source 0 ", "source 0 0", "source\t0", "source 0\r", "source 00", "source +0", "source -0", "source -1", "source 3",
		"source 0x0", "source 0.0", "source a", "source 99999999999999999999", "Source 0", "SOURCE 0", "sources 0", "src 0", "0", "1 0", "source,0", "source 0;", "source \x00", "source \uff10",
		"filter 1 2 4", "filter 1 2 4 5 6", "filter 1 2 5 5", "filter 1 2 0 5", "filter 1 3 4 5", "filter 1 -1 4 5", "filter 1 2 4 10000", "filter 1 2 4 -10000", "filter 1 2 4 05", "filter 1 2 4 --5",
		"filter 1 2 4 -0", "filter 4 2 4 5", "filter -1 2 4 5", "filter 1", "filter",
		"map", "map ", "map 1", "map 1 ", "map 1 3", "map 1 -1", "map 1 0 0 0 0 0 0 0", "map 1 0 0 0 0 0 0 0 0", "map 1 0  0", "map 1 0,0", "map 1 00", "map 4 0", "map -1 0", "map 1 0 x",
		"map 1 0 0 0 0 0 0 ", "map 1 0 0 0 0 0 x",
		"union 2", "union 2 0 0", "union 2 1", "union 1 2", "union 2 4", "union 2 -1", "union",
		"negate", "negate 1 0", "negate 3", "negate -1", "negate 01",
		"join 1 2", "join 1 2 1 0", "join 1 2 3", "join 1 2 -1", "join 1 4 1", "join 4 1 1", "join 1 1 3 3", "join",
		"distinct", "distinct 1 0", "distinct 4",
		"reduce 1 2 2", "reduce 1 2 2 2 2", "reduce 1 4 2 2", "reduce 1 -1 2 2", "reduce 1 2 0 2", "reduce 1 2 5 2", "reduce 1 2 2 3", "reduce 1 2 2 -1", "reduce 5 2 2 2", "reduce",
		"equal 1", "what", "project 1 0", "select 0",
	}
	head := planText(sources())
	expectDecodedPlan(t, head, threeWidths(), sources())
	for _, line := range lines {
		expectNotDecodedPlan(t, line, threeWidths())
		expectNotDecodedPlan(t, line+"\n", threeWidths())
		expectNotDecodedPlan(t, head+line+"\n", threeWidths())
		expectNotDecodedPlan(t, line+"\n"+head, threeWidths())
	}
	for _, text := range []string{
		strings.TrimSuffix(head, "\n"), head + "negate 0", "\n" + head, head + "\n", head + "\n\n", head + " ", head + "\x00", strings.ReplaceAll(head, "\n", "\r\n"), strings.ReplaceAll(head, "\n", ";"),
		strings.ReplaceAll(head, "\n", " "), planText(longestPlan(1)), planText(longestPlan(0)) + "\n", planText(longestPlan(0)) + "x",
		strings.Repeat("source 0\n", 100000), strings.Repeat("\n", 1000000), strings.Repeat(" ", 1000000), "source " + strings.Repeat("0", 1000000) + "\n", "map 0" + strings.Repeat(" 0", 100000) + "\n",
	} {
		expectNotDecodedPlan(t, text, threeWidths())
	}
}

func TestTextFunctionsReturnNewMemory(t *testing.T) {
	for _, z := range textZSets()[2:30] {
		if len(z) > 0 {
			expectFresh(t, "DecodeZSet", impl.DecodeZSet, zsetText(z))
			expectUnchanged(t, "EncodeZSet", impl.EncodeZSet, z)
		}
	}
	for _, c := range textPlans()[:50] {
		expectFresh(t, "DecodePlan", impl.DecodePlan, planText(c.plan), c.widths)
		expectUnchanged(t, "EncodePlan", impl.EncodePlan, c.plan, c.widths)
	}
}
