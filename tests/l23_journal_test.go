package tests

import (
	"fmt"
	"hash/crc32"
	"math/rand/v2"
	"slices"
	"strings"
	"testing"

	"loop.example/dataflow/impl"
)

// lineWith returns the line of a text with its checksum, which is a record if the text is that of a Z-set.
func lineWith(text string) string {
	return fmt.Sprintf("%d %s\n", crc32.ChecksumIEEE([]byte(text)), text)
}

// recordOf is the reference for the record of a Z-set.
func recordOf(z []impl.Entry) string {
	return lineWith(zsetText(z))
}

func journalOf(changes ...[]impl.Entry) string {
	var journal string
	for _, z := range changes {
		journal += recordOf(z)
	}
	return journal
}

// readByLines is the reference for ReadJournal. A line is a record if it is that of the Z-set of some part of it.
func readByLines(journal string) ([][]impl.Entry, int) {
	var changes [][]impl.Entry
	size := 0
	for _, line := range strings.SplitAfter(journal, "\n") {
		_, text, _ := strings.Cut(strings.TrimSuffix(line, "\n"), " ")
		z, ok := zsetOfText(text)
		if !ok || line != recordOf(z) || len(journal) > 2000 {
			return changes, size
		}
		changes = append(changes, z)
		size += len(line)
	}
	return changes, size
}

func expectReadJournal(t *testing.T, what string, journal string, want [][]impl.Entry, size int) {
	t.Helper()
	changes, n := impl.ReadJournal(journal)
	if n != size || !slices.EqualFunc(changes, want, sameZSet) {
		t.Errorf("%s: ReadJournal(%.300q) = %v, %d, want %v, %d", what, journal, changes, n, want, size)
	}
	expectZSet(t, fmt.Sprintf("%s: ReplayJournal(%.300q)", what, journal), impl.ReplayJournal(journal), addedOneByOne(want))
}

func expectRecordAppended(t *testing.T, what string, journal string, z []impl.Entry) {
	t.Helper()
	if longer, ok := impl.AppendRecord(journal, z); !ok || longer != journal+recordOf(z) {
		t.Errorf("%s: AppendRecord(%.300q, %v) = %.300q, %v", what, journal, z, longer, ok)
	}
}

func expectNoRecordAppended(t *testing.T, what string, journal string, z []impl.Entry) {
	t.Helper()
	if longer, ok := impl.AppendRecord(journal, z); ok || longer != "" {
		t.Errorf("%s: AppendRecord(%.300q, %v) = %.300q, %v", what, journal, z, longer, ok)
	}
}

// randomChanges returns small Z-sets of a width, some of them empty.
func randomChanges(r *rand.Rand, n int, width int) [][]impl.Entry {
	var changes [][]impl.Entry
	for range n {
		changes = append(changes, sumOf(randomEntries(r, r.IntN(5), width)))
	}
	return changes
}

// someJournals returns lists of changes whose journals are short enough.
func someJournals(count int) [][][]impl.Entry {
	list := [][][]impl.Entry{
		nil,
		{nil},
		{nil, nil, nil},
		{zset(entry(1, 5))},
		{zset(entry(1, 5)), nil, zset(entry(-1, 5))},
		{numbered(1, 30, 1), numbered(5, 40, -1), numbered(-10, 3, 9)},
		{zset(entry(1, 1)), zset(entry(1, 1, 2)), zset(entry(1, 1))},
	}
	r := newRandom()
	for len(list) < count {
		changes := randomChanges(r, r.IntN(9), between(r, 1, 3))
		if len(journalOf(changes...)) < 1500 {
			list = append(list, changes)
		}
	}
	return list
}

// paddedJournal returns an intact journal of a length, which must be at least 200.
func paddedJournal(length int) ([][]impl.Entry, string) {
	var changes [][]impl.Entry
	for i := 0; ; i++ {
		rest := length - len(journalOf(changes...))
		if rest < 100 {
			break
		}
		changes = append(changes, zset(entry(1, i)))
	}
	// Records of the empty Z-set have three bytes, so that one record of any length modulo 3 makes up for the rest.
	for weight := 1; ; weight *= 10 {
		last := append(slices.Clone(changes), zset(entry(weight, 7)))
		rest := length - len(journalOf(last...))
		if rest >= 0 && rest%3 == 0 {
			last = append(last, make([][]impl.Entry, rest/3)...)
			return last, journalOf(last...)
		}
	}
}

func TestP117TheChecksumIsCRC32(t *testing.T) {
	given := map[string]int{
		"":             0,
		"123456789":    3421780262,
		"a":            0xE8B7BE43,
		"abc":          0x352441C2,
		"\x00":         0xD202EF8D,
		"\xff":         0xFF000000,
		"1,2*3;":       int(crc32.ChecksumIEEE([]byte("1,2*3;"))),
		"\u00e9\n\x00": int(crc32.ChecksumIEEE([]byte("\u00e9\n\x00"))),
	}
	for text, want := range given {
		if got := impl.Checksum(text); got != want {
			t.Errorf("Checksum(%q) = %d, want %d", text, got, want)
		}
	}
	r := newRandom()
	for length := range 600 {
		bytes := make([]byte, length)
		for i := range bytes {
			bytes[i] = byte(r.IntN(256))
		}
		if got, want := impl.Checksum(string(bytes)), int(crc32.ChecksumIEEE(bytes)); got != want {
			t.Errorf("Checksum(%q) = %d, want %d", bytes, got, want)
		}
	}
	long := strings.Repeat("0123456789", 100000)
	if got, want := impl.Checksum(long), int(crc32.ChecksumIEEE([]byte(long))); got != want {
		t.Errorf("Checksum of a long text = %d, want %d", got, want)
	}
}

func TestP117EachByteCounts(t *testing.T) {
	for c := range 256 {
		for _, text := range []string{string([]byte{byte(c)}), string([]byte{'x', byte(c), 0})} {
			if got, want := impl.Checksum(text), int(crc32.ChecksumIEEE([]byte(text))); got != want {
				t.Errorf("Checksum(%q) = %d, want %d", text, got, want)
			}
		}
	}
}

func TestP117ChangingOneBitChangesTheChecksum(t *testing.T) {
	for _, text := range []string{"\x00", "a", "123456789", "1,2*3;2,0*-1;", strings.Repeat("1*1;", 100)} {
		for i := range len(text) * 8 {
			bytes := []byte(text)
			bytes[i/8] ^= 1 << (i % 8)
			if impl.Checksum(string(bytes)) == impl.Checksum(text) {
				t.Errorf("Checksum(%q) is that of %q", bytes, text)
			}
		}
	}
}

func TestP118AnAppendedRecordIsRead(t *testing.T) {
	for _, changes := range someJournals(300) {
		journal := ""
		for i, z := range changes {
			expectRecordAppended(t, "intact", journal, z)
			journal, _ = impl.AppendRecord(journal, z)
			expectReadJournal(t, "appended", journal, changes[:i+1], len(journal))
		}
	}
	given, ok := impl.AppendRecord("", zset(entry(3, 1, 2), entry(-1, 2, 0)))
	if want := fmt.Sprint(impl.Checksum("1,2*3;2,0*-1;")) + " 1,2*3;2,0*-1;\n"; !ok || given != want {
		t.Errorf("AppendRecord = %q, want %q", given, want)
	}
	expectRecordAppended(t, "the empty Z-set", "0 \n", nil)
	if given, _ = impl.AppendRecord("", nil); given != "0 \n" {
		t.Errorf("AppendRecord of the empty Z-set = %q", given)
	}
}

func TestP118RecordsAreAppendedToDamagedJournals(t *testing.T) {
	one := zset(entry(1, 5))
	for _, journal := range []string{"x", "\n", "0", "0 ", "5 1*1;\n", recordOf(one) + "0", strings.TrimSuffix(recordOf(one), "\n"), "\x00\xff", "\n\n\n"} {
		expectRecordAppended(t, "damaged", journal, one)
		changes, size := readByLines(journal + recordOf(one))
		expectReadJournal(t, "appended to a damaged one", journal+recordOf(one), changes, size)
	}
}

func TestP118InvalidRecords(t *testing.T) {
	for name, z := range invalidZSets() {
		expectNoRecordAppended(t, name, "", z)
		expectNoRecordAppended(t, name, recordOf(zset(entry(1, 5))), z)
	}
}

func TestP118LimitOfJournals(t *testing.T) {
	if impl.MaxJournal != 2000 {
		t.Errorf("MaxJournal = %d", impl.MaxJournal)
	}
	one := zset(entry(1, 5))
	record := recordOf(one)
	for length := 1980; length <= 2005; length++ {
		what := fmt.Sprintf("%d bytes", length)
		changes, journal := paddedJournal(length)
		if len(journal) != length {
			t.Fatalf("the journal has %d bytes, not %d", len(journal), length)
		}
		damaged := strings.Repeat("x", length)
		if length > 2000 {
			expectReadJournal(t, what, journal, nil, 0)
		} else {
			expectReadJournal(t, what, journal, changes, length)
		}
		for _, z := range [][]impl.Entry{nil, one} {
			if length+len(recordOf(z)) > 2000 {
				expectNoRecordAppended(t, what, journal, z)
				expectNoRecordAppended(t, what+", damaged", damaged, z)
			} else {
				expectRecordAppended(t, what, journal, z)
				expectRecordAppended(t, what+", damaged", damaged, z)
			}
		}
	}
	exact := strings.Repeat("x", 2000-len(record))
	expectRecordAppended(t, "exactly the limit", exact, one)
	expectNoRecordAppended(t, "one byte more", exact+"x", one)
	expectNoRecordAppended(t, "too long by itself", "", numbered(1, impl.MaxEntries, 1))
	expectNoRecordAppended(t, "far too long", strings.Repeat("0 \n", 100000), nil)
	expectReadJournal(t, "far too long", strings.Repeat("0 \n", 100000), nil, 0)
	expectReadJournal(t, "only empty Z-sets", strings.Repeat("0 \n", 666), make([][]impl.Entry, 666), 1998)
	expectReadJournal(t, "too long by a torn record", strings.Repeat("0 \n", 666)+"0 ", make([][]impl.Entry, 666), 1998)
	expectReadJournal(t, "too long by one record", strings.Repeat("0 \n", 667), nil, 0)
}

func TestP119LinesThatAreNotRecords(t *testing.T) {
	one, two := zset(entry(1, 5)), zset(entry(1, 5), entry(-1, 6))
	record := recordOf(one)
	checksum, text, _ := strings.Cut(strings.TrimSuffix(record, "\n"), " ")
	lines := []string{
		"\n", " \n", "  \n", "0\n", "00 \n", "-0 \n", "+0 \n", "0  \n", "0 ;\n", "1 \n", "x \n", " 0 \n", "0 \r\n", "0\t\n",
		checksum + "\n", checksum + " \n", text + "\n", " " + text + "\n", checksum + text + "\n", checksum + "  " + text + "\n", checksum + " " + text + " \n", checksum + " " + text + "\r\n",
		"0" + record, "+" + record, "-" + record, " " + record, "\x00" + record, checksum + "\t" + text + "\n", checksum + ", " + text + "\n", "1" + record,
		checksum + " " + zsetText(two) + "\n", "0 " + text + "\n", "99999999999999999999 " + text + "\n", fmt.Sprintf("%d %s\n", -int(crc32.ChecksumIEEE([]byte(text))), text),
		fmt.Sprintf("%d %s\n", int(crc32.ChecksumIEEE([]byte(text)))-1<<32, text), fmt.Sprintf("%d %s\n", int(crc32.ChecksumIEEE([]byte(text)))+1<<32, text), fmt.Sprintf("0x%x %s\n", crc32.ChecksumIEEE([]byte(text)), text),
		lineWith("1*0;"), lineWith("01*1;"), lineWith("1*+1;"), lineWith("2*1;1*1;"), lineWith("1*1;1*1;"), lineWith("1*1;1,2*1;"), lineWith("1*1"), lineWith(";"), lineWith("x"), lineWith(" "), lineWith("1*1; "), lineWith(" 1*1;"),
		lineWith("10000*1;"), lineWith("1*1000001;"), lineWith("1,2,3,4,5,6,7*1;"), lineWith("1*1;\r"),
	}
	for _, line := range lines {
		what := fmt.Sprintf("%q", line)
		expectReadJournal(t, what, line, nil, 0)
		expectReadJournal(t, what+", before a record", line+record, nil, 0)
		expectReadJournal(t, what+", behind a record", record+line, inputs(one), len(record))
		expectReadJournal(t, what+", between records", record+recordOf(two)+line+record, inputs(one, two), len(record+recordOf(two)))
	}
}

func TestP119AJournalIsReadUpToTheFirstDamage(t *testing.T) {
	r := newRandom()
	read := map[string]int{}
	for _, changes := range someJournals(400) {
		journal := journalOf(changes...)
		expectReadJournal(t, "intact", journal, changes, len(journal))
		for range 100 {
			damaged := mangled(r, journal, "0123456789 *;,-\nx")
			want, size := readByLines(damaged)
			expectReadJournal(t, "damaged", damaged, want, size)
			intact := damaged[:size]
			expectReadJournal(t, "the intact part", intact, want, size)
			switch {
			case size == len(damaged):
				read["all"]++
			case size > 0:
				read["some"]++
			default:
				read["none"]++
			}
		}
	}
	if read["all"] < 500 || read["some"] < 5000 || read["none"] < 5000 {
		t.Errorf("how much is read: %v", read)
	}
}

// Each byte of a record counts: a change of one byte damages it.
func TestP119ADamagedByteIsNoticed(t *testing.T) {
	changes := inputs(zset(entry(3, 1, 2), entry(-1, 2, 0)), zset(entry(1, 1, 2)), nil, zset(entry(12, -5, 10)))
	journal := journalOf(changes...)
	for i := range len(journal) {
		n := strings.Count(journal[:i], "\n")
		size := strings.LastIndex(journal[:i], "\n") + 1
		for c := range 256 {
			if byte(c) == journal[i] {
				continue
			}
			bytes := []byte(journal)
			bytes[i] = byte(c)
			expectReadJournal(t, fmt.Sprintf("byte %d is %d", i, c), string(bytes), changes[:n], size)
		}
	}
}

func TestP120ATornRecordDoesNotDamageEarlierOnes(t *testing.T) {
	for _, changes := range someJournals(200) {
		journal := journalOf(changes...)
		for length := range len(journal) + 1 {
			torn := journal[:length]
			n := strings.Count(torn, "\n")
			expectReadJournal(t, fmt.Sprintf("cut off after %d bytes", length), torn, changes[:n], len(journalOf(changes[:n]...)))
		}
	}
}

func TestP120RecordsBehindATornOneAreNotRead(t *testing.T) {
	one, two := zset(entry(1, 5)), zset(entry(2, 6))
	for length := 1; length < len(recordOf(two)); length++ {
		torn := recordOf(one) + recordOf(two)[:length]
		expectRecordAppended(t, "torn", torn, one)
		expectReadJournal(t, "appended to a torn one", torn+recordOf(one)+recordOf(one), inputs(one), len(recordOf(one)))
	}
}

func TestP121ReplayAddsTheChanges(t *testing.T) {
	r := newRandom()
	for range 500 {
		width := between(r, 1, 3)
		changes := randomChanges(r, r.IntN(8), width)
		journal, more := journalOf(changes...), sumOf(randomEntries(r, 5, width))
		what := fmt.Sprintf("ReplayJournal(%q)", journal)
		expectZSet(t, what, impl.ReplayJournal(journal), sumOf(changes...))
		longer, ok := impl.AppendRecord(journal, more)
		if !ok {
			t.Fatalf("AppendRecord(%q, %v) fails", journal, more)
		}
		expectZSet(t, what+" with one change more", impl.ReplayJournal(longer), sumOf(sumOf(changes...), more))
	}
}

func TestP121PartialSumsThatAreNotZSets(t *testing.T) {
	big := impl.MaxWeight
	heavy, one, wide := zset(entry(big, 1)), zset(entry(1, 1)), zset(entry(1, 1, 2))
	cases := []struct {
		name    string
		changes [][]impl.Entry
		want    []impl.Entry
	}{
		{"no changes", nil, nil},
		{"empty changes", inputs(nil, nil), nil},
		{"the largest weight", inputs(zset(entry(big-1, 1)), one), heavy},
		{"a weight too large", inputs(heavy, one), nil},
		{"a weight too large on the way", inputs(heavy, one, zset(entry(-1, 1))), zset(entry(-1, 1))},
		{"in another order", inputs(heavy, zset(entry(-1, 1)), one), heavy},
		{"another width", inputs(one, wide), nil},
		{"another width and back", inputs(one, wide, one), one},
		{"another width after the rows are gone", inputs(one, zset(entry(-1, 1)), wide), wide},
	}
	for _, c := range cases {
		expectZSet(t, "ReplayJournal: "+c.name, impl.ReplayJournal(journalOf(c.changes...)), c.want)
		expectReadJournal(t, c.name, journalOf(c.changes...), c.changes, len(journalOf(c.changes...)))
	}
	expectZSet(t, "ReplayJournal of a damaged journal", impl.ReplayJournal(recordOf(one)+"x\n"+recordOf(one)), one)
	expectZSet(t, "ReplayJournal of a torn journal", impl.ReplayJournal(recordOf(one)+strings.TrimSuffix(recordOf(one), "\n")), one)
	expectZSet(t, "ReplayJournal of a journal that is too long", impl.ReplayJournal(recordOf(one)+strings.Repeat("0 \n", 700)), nil)
}

func TestJournalFunctionsReturnNewMemory(t *testing.T) {
	for _, changes := range someJournals(50)[3:] {
		if slices.ContainsFunc(changes, func(z []impl.Entry) bool { return len(z) > 0 }) {
			expectFresh(t, "ReadJournal", impl.ReadJournal, journalOf(changes...))
		}
	}
	expectFresh(t, "ReplayJournal", impl.ReplayJournal, journalOf(numbered(1, 5, 1), numbered(3, 9, 2)))
	expectFresh(t, "ReplayJournal of one record", impl.ReplayJournal, journalOf(numbered(1, 5, 1)))
	expectUnchanged(t, "AppendRecord", impl.AppendRecord, "0 \n", numbered(1, 5, 1))
}
