package wal

import (
	"encoding/binary"
	"fmt"
	"hash/crc32"
	"math"
	"math/rand"
	"regexp"
	"slices"
	"strings"
	"testing"
	"unsafe"

	"acreage/api"
	"acreage/disk"
)

const top = uint64(1_000_000_000_000_000)

// slow is a log as the chapter words it: it keeps nothing but its disk, and
// goes through its files anew at each call.
type slow struct {
	d      *disk.Disk
	prefix string
	most   int
}

type slowFile struct {
	name    string
	number  uint64
	data    string
	records []string
	good    int
}

func slowFrame(body string) string {
	size := binary.BigEndian.AppendUint32(nil, uint32(len(body)))
	sum := crc32.ChecksumIEEE(append(slices.Clone(size), body...))
	return string(binary.LittleEndian.AppendUint32(size, sum)) + body
}

func slowFrames(l ...string) string {
	s := ""
	for _, body := range l {
		s += slowFrame(body)
	}
	return s
}

// slowScan tries whether what is left begins with the frame of its own body.
func slowScan(s string) (l []string, good int) {
	for len(s)-good >= 8 {
		n := int(binary.BigEndian.Uint32([]byte(s[good:])))
		if n > 1<<20 || n > len(s)-good-8 {
			break
		}
		body := s[good+8 : good+8+n]
		if !strings.HasPrefix(s[good:], slowFrame(body)) {
			break
		}
		l = append(l, body)
		good += 8 + n
	}
	return l, good
}

var sixteen = regexp.MustCompile(`^[0-9]{16}$`)

func (s *slow) files() []slowFile {
	var l []slowFile
	for _, name := range s.d.List("") {
		tail, ok := strings.CutPrefix(name, s.prefix)
		if !ok || !sixteen.MatchString(tail) {
			continue
		}
		n := uint64(0)
		for _, c := range tail {
			n = n*10 + uint64(c-'0')
		}
		if n == 0 || n > top {
			continue
		}
		f := slowFile{name: name, number: n}
		f.data, _ = s.d.Read(name)
		f.records, f.good = slowScan(f.data)
		l = append(l, f)
	}
	return l
}

func (s *slow) anew(name, data string) api.Errno {
	spare := s.prefix + "tmp"
	s.d.Remove(spare)
	if e := s.d.Append(spare, data); e != api.OK {
		return e
	}
	s.d.Sync(spare)
	return s.d.Rename(spare, name)
}

func slowOpen(d *disk.Disk, prefix string, most int) (*slow, api.Errno) {
	if d == nil || d.Copy() == nil {
		return nil, api.ErrNil
	}
	if len(prefix) > 48 || most < 1 {
		return nil, api.ErrArg
	}
	s := &slow{d, prefix, most}
	d.Remove(prefix + "tmp")
	l := s.files()
	bad := false
	for i, f := range l {
		if i > 0 && f.number != l[i-1].number+uint64(len(l[i-1].records)) {
			bad = true
		}
		if bad {
			d.Remove(f.name)
			continue
		}
		if f.good < len(f.data) {
			if e := s.anew(f.name, f.data[:f.good]); e != api.OK {
				return nil, e
			}
			bad = true
		}
	}
	return s, api.OK
}

func (s *slow) first() uint64 {
	if l := s.files(); len(l) > 0 {
		return l[0].number
	}
	return 1
}

func (s *slow) records() map[uint64]string {
	all := map[uint64]string{}
	for _, f := range s.files() {
		for i, r := range f.records {
			all[f.number+uint64(i)] = r
		}
	}
	return all
}

func (s *slow) next() uint64 {
	last := s.first() - 1
	for n := range s.records() {
		last = max(last, n)
	}
	return last + 1
}

func (s *slow) append(record string) api.Errno {
	if len(record) > 1<<20 {
		return api.ErrLong
	}
	l := s.files()
	if len(l) > 0 && len(l[len(l)-1].data) < s.most {
		return s.d.Append(l[len(l)-1].name, slowFrame(record))
	}
	if s.next() > top {
		return api.ErrFull
	}
	if len(l) > 0 {
		s.d.Sync(l[len(l)-1].name)
	}
	return s.d.Append(nameOf(s.prefix, s.next()), slowFrame(record))
}

func (s *slow) sync() api.Errno {
	if l := s.files(); len(l) > 0 {
		return s.d.Sync(l[len(l)-1].name)
	}
	return api.OK
}

func (s *slow) cut(from uint64) api.Errno {
	if from < s.first() {
		return api.ErrArg
	}
	if from >= s.next() {
		return api.OK
	}
	l := s.files()
	for l[len(l)-1].number > from {
		s.d.Remove(l[len(l)-1].name)
		l = l[:len(l)-1]
	}
	f := l[len(l)-1]
	return s.anew(f.name, slowFrames(f.records[:from-f.number]...))
}

func (s *slow) drop(to uint64) api.Errno {
	l := s.files()
	for len(l) > 1 {
		for i := range l[0].records {
			if l[0].number+uint64(i) >= to {
				return api.OK
			}
		}
		s.d.Remove(l[0].name)
		l = l[1:]
	}
	return api.OK
}

func nameOf(prefix string, n uint64) string { return prefix + fmt.Sprintf("%016d", n) }

// sameDisk holds two disks against one another, by all that they tell.
func sameDisk(t *testing.T, got, want *disk.Disk) {
	t.Helper()
	if l, m := got.List(""), want.List(""); !slices.Equal(l, m) {
		t.Fatalf("the files are %q, not %q", l, m)
	}
	for _, name := range want.List("") {
		a, _ := got.Read(name)
		b, _ := want.Read(name)
		if a != b {
			t.Fatalf("%q has %q, not %q", name, a, b)
		}
		if got.Synced(name) != want.Synced(name) {
			t.Fatalf("of %q %d bytes are synced, not %d", name, got.Synced(name), want.Synced(name))
		}
	}
	if got.Free() != want.Free() {
		t.Fatalf("%d are free, not %d", got.Free(), want.Free())
	}
}

// same holds a log and its disk against the words.
func same(t *testing.T, w *Wal, d *disk.Disk, s *slow) {
	t.Helper()
	sameDisk(t, d, s.d)
	first, next := s.first(), s.next()
	if w.First() != first || w.Next() != next {
		t.Fatalf("the log is %d to %d, not %d to %d", w.First(), w.Next(), first, next)
	}
	all := s.records()
	for n := first; n < next; n++ {
		if got, e := w.Get(n); e != api.OK || got != all[n] {
			t.Fatalf("Get(%d) = %q, %d, not %q", n, got, e, all[n])
		}
	}
	for _, n := range []uint64{0, first - 1, next, next + 1, math.MaxUint64} {
		if got, e := w.Get(n); e != api.ErrNone || got != "" {
			t.Fatalf("Get(%d) of %d to %d = %q, %d", n, first, next, got, e)
		}
	}
}

// pair is a log beside one as the words say, each on a disk of its own.
type pair struct {
	w *Wal
	d *disk.Disk
	s *slow
}

// openBoth opens what d has, and a copy of it as the words say.
func openBoth(t *testing.T, d *disk.Disk, prefix string, most int) pair {
	t.Helper()
	beside := d.Copy()
	s, want := slowOpen(beside, prefix, most)
	w, e := Open(d, prefix, most)
	must(t, e, want)
	if e != api.OK {
		if w != nil {
			t.Fatal("a log beside an error")
		}
		sameDisk(t, d, beside)
		return pair{}
	}
	same(t, w, d, s)
	return pair{w, d, s}
}

func (p pair) append(t *testing.T, l ...string) {
	t.Helper()
	for _, r := range l {
		must(t, p.w.Append(r), p.s.append(r))
		same(t, p.w, p.d, p.s)
	}
}

func (p pair) sync(t *testing.T) {
	t.Helper()
	must(t, p.w.Sync(), p.s.sync())
	same(t, p.w, p.d, p.s)
}

func (p pair) cut(t *testing.T, from uint64) {
	t.Helper()
	must(t, p.w.Cut(from), p.s.cut(from))
	same(t, p.w, p.d, p.s)
}

func (p pair) drop(t *testing.T, to uint64) {
	t.Helper()
	must(t, p.w.Drop(to), p.s.drop(to))
	same(t, p.w, p.d, p.s)
}

// diskOf has these files, each name followed by its bytes, all synced.
func diskOf(t *testing.T, room int, files ...string) *disk.Disk {
	t.Helper()
	d := disk.New(room)
	for i := 0; i < len(files); i += 2 {
		must(t, d.Append(files[i], files[i+1]), api.OK)
		must(t, d.Sync(files[i]), api.OK)
	}
	return d
}

func must(t *testing.T, got, want api.Errno) {
	t.Helper()
	if got != want {
		t.Fatalf("answered %d, not %d", got, want)
	}
}

func mustGet(t *testing.T, w *Wal, n uint64, want string, err api.Errno) {
	t.Helper()
	if s, e := w.Get(n); s != want || e != err {
		t.Fatalf("Get(%d) = %q, %d, not %q, %d", n, s, e, want, err)
	}
}

func mustBe(t *testing.T, w *Wal, first, next uint64) {
	t.Helper()
	if w.First() != first || w.Next() != next {
		t.Fatalf("the log is %d to %d, not %d to %d", w.First(), w.Next(), first, next)
	}
}

func mustHave(t *testing.T, d *disk.Disk, names ...string) {
	t.Helper()
	if l := d.List(""); !slices.Equal(l, names) {
		t.Fatalf("the files are %q, not %q", l, names)
	}
}

func mustOpen(t *testing.T, d *disk.Disk, prefix string, most int) *Wal {
	t.Helper()
	w, e := Open(d, prefix, most)
	must(t, e, api.OK)
	if w == nil {
		t.Fatal("no log")
	}
	return w
}

func TestTheChaptersExamples(t *testing.T) { // P7.1 to P7.4
	d := disk.New(1000)
	w := mustOpen(t, d, "prefix", 20)
	mustBe(t, w, 1, 1)
	mustGet(t, w, 1, "", api.ErrNone)
	must(t, w.Sync(), api.OK)
	must(t, w.Cut(1), api.OK)
	must(t, w.Drop(9), api.OK)
	mustHave(t, d)
	for _, r := range []string{"a", "b", "c", "d"} {
		must(t, w.Append(r), api.OK)
	}
	mustHave(t, d, "prefix0000000000000001", "prefix0000000000000004")
	one, _ := d.Read("prefix0000000000000001")
	four, _ := d.Read("prefix0000000000000004")
	if len(one) != 27 || len(four) != 9 || d.Synced("prefix0000000000000001") != 27 || d.Synced("prefix0000000000000004") != 0 {
		t.Fatalf("%q, %q", one, four)
	}
	mustGet(t, w, 2, "b", api.OK)
	mustGet(t, w, 4, "d", api.OK)
	mustGet(t, w, 5, "", api.ErrNone)
	must(t, w.Drop(4), api.OK)
	mustBe(t, w, 4, 5)
	mustGet(t, w, 3, "", api.ErrNone)
	must(t, w.Drop(9), api.OK)
	mustBe(t, w, 4, 5)
	must(t, w.Cut(3), api.ErrArg)
	must(t, w.Cut(5), api.OK)
	must(t, w.Cut(4), api.OK)
	mustBe(t, w, 4, 4)
	must(t, w.Append("e"), api.OK)
	mustGet(t, w, 4, "e", api.OK)
	d.Crash(nil)
	w = mustOpen(t, d, "prefix", 20)
	mustBe(t, w, 4, 4)
	mustHave(t, d, "prefix0000000000000004")
	if s, _ := d.Read("prefix0000000000000004"); s != "" {
		t.Fatalf("the file 4 has %q", s)
	}
}

func TestWhichLogsAreOpened(t *testing.T) { // P7.1, R2, R3
	long, tooLong := strings.Repeat("p", 48), strings.Repeat("p", 49)
	var none *disk.Disk
	for _, c := range []struct {
		d      *disk.Disk
		prefix string
		most   int
		want   api.Errno
	}{
		{disk.New(100), "w", 1, api.OK}, {disk.New(100), "", 1, api.OK}, {disk.New(0), "w", 1, api.OK}, {disk.New(100), long, math.MaxInt, api.OK},
		{disk.New(100), strings.Repeat("\x00", 48), 1, api.OK}, {disk.New(100), strings.Repeat("\xff", 48), 2, api.OK},
		{disk.New(100), tooLong, 1, api.ErrArg}, {disk.New(100), strings.Repeat("é", 25), 1, api.ErrArg}, {disk.New(100), strings.Repeat("p", 4096), 1, api.ErrArg},
		{disk.New(100), "w", 0, api.ErrArg}, {disk.New(100), "w", -1, api.ErrArg}, {disk.New(100), "w", math.MinInt, api.ErrArg}, {disk.New(100), tooLong, 0, api.ErrArg},
		{nil, "w", 1, api.ErrNil}, {none, "w", 1, api.ErrNil}, {new(disk.Disk), "w", 1, api.ErrNil}, {&disk.Disk{}, "", 20, api.ErrNil},
		// Of several faults the first one counts: the disk ahead of the rest.
		{nil, tooLong, 0, api.ErrNil}, {new(disk.Disk), tooLong, 1, api.ErrNil}, {new(disk.Disk), "w", 0, api.ErrNil},
	} {
		w, e := Open(c.d, c.prefix, c.most)
		must(t, e, c.want)
		if (w != nil) != (e == api.OK) {
			t.Fatalf("a log %v beside %d", w != nil, e)
		}
		if e == api.OK {
			mustBe(t, w, 1, 1)
			mustHave(t, c.d)
		}
	}
}

func TestALogThatIsRefusedTouchesNothing(t *testing.T) { // P7.1, R2
	d := diskOf(t, 1000, "wtmp", "spare", nameOf("w", 1), "no frame", nameOf("w", 9), slowFrame("a"))
	was := d.Copy()
	for _, most := range []int{0, -1, math.MinInt} {
		_, e := Open(d, "w", most)
		must(t, e, api.ErrArg)
		sameDisk(t, d, was)
	}
	tooLong := strings.Repeat("w", 49)
	for _, name := range []string{tooLong + "tmp", nameOf(strings.Repeat("w", 48), 1)} {
		must(t, d.Append(name, "x"), api.OK)
	}
	was = d.Copy()
	_, e := Open(d, tooLong, 1)
	must(t, e, api.ErrArg)
	sameDisk(t, d, was)
}

func TestLogsOfAllLengthsOfPrefixes(t *testing.T) { // P7.1, P7.3, P7.4
	for _, n := range []int{0, 1, 2, 16, 47, 48} {
		prefix := strings.Repeat("0", n)
		p := openBoth(t, disk.New(1000), prefix, 20)
		p.append(t, "a", "b", "c", "d", "", "f")
		p.sync(t)
		p.cut(t, 5)
		p.cut(t, 2)
		p.append(t, "g", "h", "i")
		p.drop(t, 4)
		p.d.Crash([]int{3})
		p = openBoth(t, p.d, prefix, 20)
		p.append(t, "j")
		if l := p.d.List(""); len(l) == 0 || len(l[0]) != n+16 {
			t.Fatalf("%q", l)
		}
	}
}

func TestTheSpareFileIsRemoved(t *testing.T) { // P7.1, P7.4
	for _, prefix := range []string{"w", "", "tmp", strings.Repeat("p", 48)} {
		others := []string{"t", "tm", prefix + "tmpx", prefix + "TMP", "x" + prefix + "tmp", prefix + "tm", prefix + ".tmp"}
		slices.Sort(others)
		others = slices.Compact(others)
		others = slices.DeleteFunc(others, func(s string) bool { return s == prefix+"tmp" })
		d := disk.New(1000)
		for _, name := range others {
			must(t, d.Append(name, "other"), api.OK)
		}
		must(t, d.Append(prefix+"tmp", "left of a file that was to be written anew"), api.OK)
		p := openBoth(t, d, prefix, 20)
		mustHave(t, d, others...)
		// One that came to lie there since is in no way of a cut.
		p.append(t, "a", "b")
		for _, beside := range []*disk.Disk{p.d, p.s.d} {
			must(t, beside.Append(prefix+"tmp", "again"), api.OK)
		}
		p.cut(t, 2)
		mustGet(t, p.w, 1, "a", api.OK)
		if s, e := d.Read(prefix + "tmp"); e != api.ErrNone {
			t.Fatalf("a spare file %q is left", s)
		}
	}
}

func TestWhichFilesAreALogs(t *testing.T) { // P7.1
	frame := slowFrame("a")
	for _, c := range []struct {
		tail   string
		number uint64
	}{
		{"0000000000000001", 1}, {"0000000000000010", 10}, {"0123456789012345", 123456789012345}, {"0999999999999999", top - 1}, {"1000000000000000", top},
		{"0000000000000000", 0}, {"1000000000000001", 0}, {"2000000000000000", 0}, {"9999999999999999", 0},
		{"", 0}, {"1", 0}, {"000000000000001", 0}, {"00000000000000001", 0}, {"10000000000000000", 0}, {"00000000000000010", 0},
		{"+000000000000001", 0}, {"-000000000000001", 0}, {" 000000000000001", 0}, {"000000000000001 ", 0}, {"0x00000000000001", 0}, {"0b00000000000001", 0},
		{"000000000000000a", 0}, {"a000000000000001", 0}, {"00000000_0000001", 0}, {"0_00000000000001", 0}, {"0000000.00000001", 0}, {"000000000000001\x00", 0}, {"00000000000000\xd9\xa1", 0},
		{"/000000000000001", 0}, {":000000000000001", 0}, {"00000000000001e1", 0}, {"000000000000001\n", 0}, {"００００１\x30", 0},
	} {
		d := diskOf(t, 1000, "w"+c.tail, frame, "x0000000000000001", frame, "0000000000000001", frame, "ww0000000000000001", frame, "w0", "other")
		was := d.Copy()
		p := openBoth(t, d, "w", 20)
		if c.number > 0 {
			mustBe(t, p.w, c.number, c.number+1)
			mustGet(t, p.w, c.number, "a", api.OK)
		} else {
			mustBe(t, p.w, 1, 1)
		}
		sameDisk(t, d, was)
	}
}

func TestOthersFilesAreNotTouched(t *testing.T) { // ahead of P7.1
	others := map[string]string{
		"w": "x", "w1": "y", "w00000000000000001": "17 digits", "w000000000000001": "15 digits", "w0000000000000000": "0", "w1000000000000001": "above",
		"w000000000000000x": "a letter", "wtmp1": "1", "wtm": "2", "v0000000000000001": slowFrame("v"), "0000000000000001": slowFrame("none"), "W0000000000000001": slowFrame("W"),
		"ww0000000000000001": slowFrame("ww"), "w0000000000000001.": "behind", "\xff": "last", "ztmp": "a spare of others",
	}
	d := disk.New(10000)
	for name, data := range others {
		must(t, d.Append(name, data[:len(data)/2]), api.OK)
		must(t, d.Sync(name), api.OK)
		must(t, d.Append(name, data[len(data)/2:]), api.OK)
	}
	untouched := func() {
		t.Helper()
		for name, data := range others {
			if s, e := d.Read(name); s != data || e != api.OK || d.Synced(name) != len(data)/2 {
				t.Fatalf("%q has %q, %d, %d synced", name, s, e, d.Synced(name))
			}
		}
	}
	w := mustOpen(t, d, "w", 20)
	untouched()
	for i := range 20 {
		must(t, w.Append(strings.Repeat("r", i)), api.OK)
		must(t, w.Sync(), api.OK)
		untouched()
	}
	must(t, w.Cut(15), api.OK)
	untouched()
	must(t, w.Drop(12), api.OK)
	untouched()
	must(t, w.Cut(w.First()), api.OK)
	untouched()
	mustOpen(t, d, "w", 1)
	untouched()
}

func TestTwoLogsOnOneDisk(t *testing.T) { // ahead of P7.1
	for _, prefixes := range [][2]string{{"a", "b"}, {"w", "w1"}, {"w", "w0000000000000001"}, {"", "0"}, {"t", "ttmp"}, {"w", "wtmp"}, {"", "tmp"}} {
		d := disk.New(10000)
		a, b := mustOpen(t, d, prefixes[0], 20), mustOpen(t, d, prefixes[1], 30)
		for i := range 12 {
			must(t, a.Append(fmt.Sprint("a", i)), api.OK)
			must(t, b.Append(fmt.Sprint("b", i)), api.OK)
		}
		must(t, a.Cut(8), api.OK)
		must(t, b.Drop(7), api.OK)
		a, b = mustOpen(t, d, prefixes[0], 20), mustOpen(t, d, prefixes[1], 30)
		mustBe(t, a, 1, 8)
		mustBe(t, b, 7, 13)
		for i := range uint64(7) {
			mustGet(t, a, 1+i, fmt.Sprint("a", i), api.OK)
		}
		for i := range uint64(6) {
			mustGet(t, b, 7+i, fmt.Sprint("b", 6+i), api.OK)
		}
	}
}

func TestFilesThatFollowOneAnother(t *testing.T) { // P7.1, P7.2
	one, two, three := slowFrames("a"), slowFrames("b", "c"), slowFrames("d", "", "f")
	for _, c := range []struct {
		what        string
		files       []string
		first, next uint64
		left        []uint64
	}{
		{"none", nil, 1, 1, nil},
		{"one", []string{nameOf("w", 1), two}, 1, 3, []uint64{1}},
		{"the first has any number", []string{nameOf("w", 77), two}, 77, 79, []uint64{77}},
		{"three in a row", []string{nameOf("w", 5), one, nameOf("w", 6), two, nameOf("w", 8), three}, 5, 11, []uint64{5, 6, 8}},
		{"a gap", []string{nameOf("w", 5), one, nameOf("w", 7), two, nameOf("w", 9), three}, 5, 6, []uint64{5}},
		{"a gap further on", []string{nameOf("w", 5), one, nameOf("w", 6), two, nameOf("w", 9), three}, 5, 8, []uint64{5, 6}},
		{"an overlap", []string{nameOf("w", 5), three, nameOf("w", 7), two, nameOf("w", 9), one}, 5, 8, []uint64{5}},
		{"one too many", []string{nameOf("w", 5), two, nameOf("w", 6), two}, 5, 7, []uint64{5}},
		{"an empty one alone", []string{nameOf("w", 5), ""}, 5, 5, []uint64{5}},
		{"an empty one last", []string{nameOf("w", 5), two, nameOf("w", 7), ""}, 5, 7, []uint64{5, 7}},
		{"an empty one first", []string{nameOf("w", 5), "", nameOf("w", 6), one}, 5, 5, []uint64{5}},
		{"an empty one between", []string{nameOf("w", 5), two, nameOf("w", 7), "", nameOf("w", 8), one}, 5, 7, []uint64{5, 7}},
		{"up to the highest", []string{nameOf("w", top-1), one, nameOf("w", top), three}, top - 1, top + 3, []uint64{top - 1, top}},
		{"one that would follow is above the highest", []string{nameOf("w", top), one, nameOf("w", top+1), one}, top, top + 1, []uint64{top, top + 1}},
	} {
		d := diskOf(t, 1000, c.files...)
		p := openBoth(t, d, "w", 20)
		if p.w.First() != c.first || p.w.Next() != c.next {
			t.Errorf("%s: %d to %d", c.what, p.w.First(), p.w.Next())
		}
		var left []string
		for _, n := range c.left {
			left = append(left, nameOf("w", n))
		}
		if l := d.List(""); !slices.Equal(l, left) {
			t.Errorf("%s: %q", c.what, l)
		}
		// Opened again nothing is left to do, and the log goes on.
		was := d.Copy()
		p = openBoth(t, d, "w", 20)
		sameDisk(t, d, was)
		p.append(t, "on", "and on")
	}
}

func TestAFileThatIsBroken(t *testing.T) { // P7.1
	good := slowFrames("a", "", "ccc")
	turned := []byte(slowFrames("a", "", "ccc", "dddd"))
	turned[len(turned)-1] ^= 1
	sum := []byte(slowFrames("a", "", "ccc", "dddd"))
	sum[len(good)+4] ^= 0x80
	for what, tail := range map[string]string{
		"one byte": "x", "a byte 0": "\x00", "bytes 0": strings.Repeat("\x00", 100), "eight bytes 0": strings.Repeat("\x00", 8),
		"a body's bit": string(turned[len(good):]), "a sum's bit": string(sum[len(good):]), "a whole one behind it": string(turned[len(good):]) + slowFrame("whole"),
		"too long": "\x00\x10\x00\x01\x00\x00\x00\x00" + strings.Repeat("y", 1<<20+1), "a huge length": "\xff\xff\xff\xff\x00\x00\x00\x00",
	} {
		for _, ahead := range []string{"", slowFrame("a"), good} {
			for _, behind := range [][]string{nil, {nameOf("w", 10), slowFrames("e")}, {nameOf("w", 10), slowFrames("e", "f"), nameOf("w", 12), slowFrame("g")}} {
				d := diskOf(t, 1<<22, append([]string{nameOf("w", 7), ahead + tail}, behind...)...)
				p := openBoth(t, d, "w", 20)
				records, _ := slowScan(ahead)
				mustBe(t, p.w, 7, 7+uint64(len(records)))
				mustHave(t, d, nameOf("w", 7))
				if s, _ := d.Read(nameOf("w", 7)); s != ahead || d.Synced(nameOf("w", 7)) != len(ahead) {
					t.Fatalf("%s: %q is left, %d synced", what, s, d.Synced(nameOf("w", 7)))
				}
				p.append(t, "on")
			}
		}
	}
}

func TestAFileCutAtAnyByte(t *testing.T) { // P7.1, P7.5
	l := []string{"a", "", "ccc", "\x00\x00\x00\x00\x00\x00\x00\x00", "e"}
	whole := slowFrames(l...)
	for n := range len(whole) + 1 {
		d := diskOf(t, 1000, nameOf("w", 1), slowFrames("x", "y"), nameOf("w", 3), whole[:n], nameOf("w", 8), slowFrame("z"))
		p := openBoth(t, d, "w", 20)
		left, size := 0, 0
		for left < len(l) && size+8+len(l[left]) <= n {
			size += 8 + len(l[left])
			left++
		}
		if left == len(l) {
			mustBe(t, p.w, 1, 9)
			mustHave(t, d, nameOf("w", 1), nameOf("w", 3), nameOf("w", 8))
			continue
		}
		mustBe(t, p.w, 1, 3+uint64(left))
		mustHave(t, d, nameOf("w", 1), nameOf("w", 3))
		if s, _ := d.Read(nameOf("w", 3)); s != whole[:size] {
			t.Fatalf("cut to %d: %q", n, s)
		}
	}
}

func TestAWholeFileIsNotWrittenAnew(t *testing.T) { // P7.1
	d := disk.New(18)
	must(t, d.Append(nameOf("w", 1), slowFrames("a", "b")), api.OK)
	was := d.Copy()
	w := mustOpen(t, d, "w", 20)
	mustBe(t, w, 1, 3)
	sameDisk(t, d, was) // no byte of it was synced, and there was no room
}

func TestOpenWithoutRoomForTheSpareFile(t *testing.T) { // P7.1, R2
	files := []string{nameOf("w", 1), slowFrames("a", "b"), nameOf("w", 3), slowFrames("c", "d", "e") + "torn", nameOf("w", 6), slowFrame("f"), nameOf("w", 9), ""}
	used := 18 + 31 + 9
	for room := used; room <= used+40; room++ {
		d := diskOf(t, room, files...)
		was := d.Copy()
		p := openBoth(t, d, "w", 20)
		if room-used < 27 {
			if p.w != nil {
				t.Fatalf("opened with %d free", room-used)
			}
			// The error ended the call: what stands behind is there.
			sameDisk(t, d, was)
			// With more room it is opened.
			must(t, d.Remove(nameOf("w", 6)), api.OK)
			must(t, d.Remove(nameOf("w", 1)), api.OK)
			openBoth(t, d, "w", 20)
			continue
		}
		mustBe(t, p.w, 1, 6)
		mustHave(t, d, nameOf("w", 1), nameOf("w", 3))
	}
	// A spare file that lies there is gone first, and its room is free.
	d := diskOf(t, used+27, append(files, "wtmp", strings.Repeat("s", 27))...)
	p := openBoth(t, d, "w", 20)
	mustBe(t, p.w, 1, 6)
	// It is gone too where the call ends with an error.
	d = diskOf(t, used+26, append(files, "wtmp", strings.Repeat("s", 26))...)
	_, e := Open(d, "w", 20)
	must(t, e, api.ErrFull)
	if d.Free() != 26 {
		t.Fatalf("%d free", d.Free())
	}
	// A file without a frame needs no room to be written anew.
	d = diskOf(t, 4, nameOf("w", 5), "torn")
	mustBe(t, openBoth(t, d, "w", 20).w, 5, 5)
	if d.Free() != 4 {
		t.Fatalf("%d free", d.Free())
	}
}

func TestGet(t *testing.T) { // P7.2
	p := openBoth(t, disk.New(10000), "w", 20)
	for i := range 30 {
		p.append(t, strings.Repeat(string(rune('a'+i%26)), i%7))
	}
	for n := range uint64(34) {
		want, e := "", api.ErrNone
		if 1 <= n && n < 31 {
			want, e = strings.Repeat(string(rune('a'+(n-1)%26)), int((n-1)%7)), api.OK
		}
		mustGet(t, p.w, n, want, e)
	}
	for _, n := range []uint64{31, 32, 1 << 32, 1<<32 + 5, 1 << 63, 1<<63 + 5, math.MaxUint64 - 1, math.MaxUint64} {
		mustGet(t, p.w, n, "", api.ErrNone)
	}
	p.drop(t, 12)
	first := p.w.First()
	if first < 2 || first > 12 {
		t.Fatalf("First = %d", first)
	}
	mustGet(t, p.w, first-1, "", api.ErrNone)
	mustGet(t, p.w, 0, "", api.ErrNone)
	mustGet(t, p.w, 30, "d", api.OK)
	p.cut(t, 20)
	mustGet(t, p.w, 19, strings.Repeat("s", 4), api.OK)
	mustGet(t, p.w, 20, "", api.ErrNone)
	mustGet(t, p.w, 30, "", api.ErrNone)
}

func TestGetChangesNothing(t *testing.T) { // P7.2
	p := openBoth(t, disk.New(1000), "w", 20)
	p.append(t, "a", "b", "c", "d")
	was := p.d.Copy()
	for range 3 {
		for n := range uint64(7) {
			p.w.Get(n)
			p.w.First()
			p.w.Next()
		}
		sameDisk(t, p.d, was)
	}
}

func TestWhenAFileIsFollowedByANewOne(t *testing.T) { // P7.3
	// Two frames of 9 bytes: a file that has just most bytes takes no more.
	for most, second := range map[int]uint64{1: 2, 8: 2, 9: 2, 10: 3, 17: 3, 18: 3, 19: 4, 27: 4, 28: 5, 36: 5} {
		p := openBoth(t, disk.New(1000), "w", most)
		p.append(t, "a", "b", "c", "d", "e")
		l := p.d.List("")
		if len(l) < 2 || l[0] != nameOf("w", 1) || l[1] != nameOf("w", second) {
			t.Errorf("most %d: %q", most, l)
		}
		// All but the last are synced; of the last nothing is.
		for i, name := range l {
			data, _ := p.d.Read(name)
			want := len(data)
			if i == len(l)-1 {
				want = 0
			}
			if p.d.Synced(name) != want {
				t.Errorf("most %d: of %q %d are synced", most, name, p.d.Synced(name))
			}
		}
	}
	for _, most := range []int{37, 46, math.MaxInt} {
		p := openBoth(t, disk.New(1000), "w", most)
		p.append(t, "a", "b", "c", "d", "e")
		mustHave(t, p.d, nameOf("w", 1))
	}
}

func TestAnOpenedLogGoesOnInItsLastFile(t *testing.T) { // P7.1, P7.3
	for most, names := range map[int][]uint64{1: {1, 3, 4}, 9: {1, 3, 4}, 10: {1, 3}, 18: {1, 3}, 19: {1, 4}, 27: {1, 4}, 28: {1}} {
		d := diskOf(t, 1000, nameOf("w", 1), slowFrames("a", "b"))
		p := openBoth(t, d, "w", most)
		p.append(t, "c", "d")
		var want []string
		for _, n := range names {
			want = append(want, nameOf("w", n))
		}
		if l := d.List(""); !slices.Equal(l, want) {
			t.Errorf("most %d: %q, not %q", most, l, want)
		}
	}
	// How many bytes the last file has is counted from what it was written anew with.
	d := diskOf(t, 1000, nameOf("w", 1), slowFrame("a")+strings.Repeat("torn", 9))
	p := openBoth(t, d, "w", 10)
	p.append(t, "b", "c")
	mustHave(t, d, nameOf("w", 1), nameOf("w", 3))
	// An empty file is never followed by another one: it would have its number.
	d = diskOf(t, 1000, nameOf("w", 6), "")
	p = openBoth(t, d, "w", 1)
	p.append(t, "a")
	mustHave(t, d, nameOf("w", 6))
}

func TestRecordsOfAnyBytesAndLengths(t *testing.T) { // P7.2, P7.3
	l := []string{"", "\x00", "\xff\xfe", "é", "two\nlines", slowFrame("a frame"), slowFrames("", ""), strings.Repeat("\x00", 100), strings.Repeat("z", 5000), "", ""}
	for _, most := range []int{1, 8, 9, 100, 1 << 20} {
		p := openBoth(t, disk.New(1<<20), "w", most)
		p.append(t, l...)
		p = openBoth(t, p.d, "w", most)
		for i, r := range l {
			mustGet(t, p.w, 1+uint64(i), r, api.OK)
		}
	}
}

func TestTheLongestRecord(t *testing.T) { // P7.3
	longest := strings.Repeat("l", 1<<20)
	d := disk.New(1 << 24)
	w := mustOpen(t, d, "w", 20)
	must(t, w.Append("a"), api.OK)
	was := d.Copy()
	for _, tooLong := range []string{longest + "l", longest + longest} {
		must(t, w.Append(tooLong), api.ErrLong)
		sameDisk(t, d, was)
		mustBe(t, w, 1, 2)
	}
	must(t, w.Append(longest), api.OK)
	mustBe(t, w, 1, 3)
	mustGet(t, w, 2, longest, api.OK)
	must(t, w.Append("b"), api.OK)
	must(t, w.Append(longest), api.OK)
	mustHave(t, d, nameOf("w", 1), nameOf("w", 3))
	was = d.Copy()
	// The last file is full, and would be synced ahead of a new one: a record
	// that is too long does not get so far.
	must(t, w.Append(longest+"l"), api.ErrLong)
	sameDisk(t, d, was)
	w = mustOpen(t, d, "w", 20)
	mustGet(t, w, 4, longest, api.OK)
	// Where there is no room either, the length counts first.
	must(t, mustOpen(t, disk.New(0), "w", 20).Append(longest+"l"), api.ErrLong)
	must(t, mustOpen(t, disk.New(0), "w", 20).Append(longest), api.ErrFull)
}

func TestAppendWithoutRoom(t *testing.T) { // P7.3, R2
	for _, most := range []int{1, 20, 100} {
		for room := range 70 {
			p := openBoth(t, disk.New(room), "w", most)
			for i := range 12 {
				// Each is held against the words; a shorter one may have room later.
				p.append(t, strings.Repeat("r", (7*i)%10))
			}
		}
	}
	d := disk.New(26)
	w := mustOpen(t, d, "w", 20)
	must(t, w.Append("a"), api.OK)
	must(t, w.Append("b"), api.OK)
	must(t, w.Append("c"), api.ErrFull)
	mustBe(t, w, 1, 3)
	mustGet(t, w, 3, "", api.ErrNone)
	must(t, w.Append(""), api.OK)
	mustBe(t, w, 1, 4)
	mustGet(t, w, 3, "", api.OK)
}

func TestANewFileWithoutRoom(t *testing.T) { // P7.3
	d := disk.New(26)
	w := mustOpen(t, d, "w", 18)
	must(t, w.Append("a"), api.OK)
	must(t, w.Append("b"), api.OK)
	must(t, w.Append("c"), api.ErrFull)
	mustHave(t, d, nameOf("w", 1))
	mustBe(t, w, 1, 3)
	// It was synced first, as the words say.
	if n := d.Synced(nameOf("w", 1)); n != 18 {
		t.Fatalf("%d synced", n)
	}
	must(t, w.Append(""), api.OK)
	mustHave(t, d, nameOf("w", 1), nameOf("w", 3))
}

func TestTheHighestNumberOfAFile(t *testing.T) { // P7.3
	frame := slowFrame("a")
	// A file of the highest number may be begun; none behind it.
	d := diskOf(t, 1000, nameOf("w", top-1), frame)
	p := openBoth(t, d, "w", 9)
	p.append(t, "b")
	mustHave(t, d, nameOf("w", top-1), nameOf("w", top))
	mustBe(t, p.w, top-1, top+1)
	was := d.Copy()
	for range 2 {
		must(t, p.w.Append("c"), api.ErrFull)
		sameDisk(t, d, was) // not even synced
		mustBe(t, p.w, top-1, top+1)
	}
	must(t, p.w.Append(strings.Repeat("c", 1<<20+1)), api.ErrLong)
	// Records may have greater numbers, as long as the file takes them.
	d = diskOf(t, 1000, nameOf("w", top), frame)
	p = openBoth(t, d, "w", 27)
	p.append(t, "b", "c")
	mustBe(t, p.w, top, top+3)
	mustGet(t, p.w, top+2, "c", api.OK)
	must(t, p.w.Append("d"), api.ErrFull)
	p.cut(t, top+2)
	p.append(t, "e")
	mustGet(t, p.w, top+2, "e", api.OK)
	must(t, p.w.Append("f"), api.ErrFull)
	p.drop(t, math.MaxUint64)
	mustBe(t, p.w, top, top+3)
	p.d.Crash([]int{9})
	p.s.d.Crash([]int{9})
	openBoth(t, d, "w", 27)
	// One that would go on in a file above the highest can't.
	d = diskOf(t, 1000, nameOf("w", top-1), slowFrames("a", "b"))
	p = openBoth(t, d, "w", 18)
	must(t, p.w.Append("c"), api.ErrFull)
	mustBe(t, p.w, top-1, top+1)
}

func TestSync(t *testing.T) { // P7.3
	d := disk.New(1000)
	w := mustOpen(t, d, "w", 20)
	must(t, w.Sync(), api.OK)
	mustHave(t, d)
	must(t, w.Append("a"), api.OK)
	if d.Synced(nameOf("w", 1)) != 0 {
		t.Fatal("synced of its own")
	}
	must(t, w.Sync(), api.OK)
	must(t, w.Sync(), api.OK)
	if d.Synced(nameOf("w", 1)) != 9 {
		t.Fatalf("%d synced", d.Synced(nameOf("w", 1)))
	}
	must(t, w.Append("b"), api.OK)
	if d.Synced(nameOf("w", 1)) != 9 {
		t.Fatalf("%d synced behind Append", d.Synced(nameOf("w", 1)))
	}
	must(t, w.Append("c"), api.OK)
	must(t, w.Append("d"), api.OK)
	must(t, w.Sync(), api.OK)
	if d.Synced(nameOf("w", 1)) != 27 || d.Synced(nameOf("w", 4)) != 9 {
		t.Fatalf("%d and %d synced", d.Synced(nameOf("w", 1)), d.Synced(nameOf("w", 4)))
	}
	// What others have not synced stays so.
	must(t, d.Append("other", "x"), api.OK)
	must(t, w.Sync(), api.OK)
	if d.Synced("other") != 0 {
		t.Fatal("others' bytes are synced")
	}
}

// three has the files 3 (a b c), 6 (d e f), 9 (g h), of most 20.
func three(t *testing.T, room int) pair {
	t.Helper()
	d := diskOf(t, room, nameOf("w", 3), slowFrames("a", "b", "c"), nameOf("w", 6), slowFrames("d", "e", "f"), nameOf("w", 9), slowFrame("g"))
	must(t, d.Append(nameOf("w", 9), slowFrame("h")), api.OK)
	return openBoth(t, d, "w", 20)
}

func TestCut(t *testing.T) { // P7.4
	for from := range uint64(14) {
		p := three(t, 1000)
		was := p.d.Copy()
		p.cut(t, from)
		switch {
		case from < 3:
			must(t, p.w.Cut(from), api.ErrArg)
			sameDisk(t, p.d, was)
			mustBe(t, p.w, 3, 11)
		case from >= 11:
			must(t, p.w.Cut(from), api.OK)
			sameDisk(t, p.d, was)
			mustBe(t, p.w, 3, 11)
		default:
			mustBe(t, p.w, 3, from)
			if l := p.d.List(""); len(l) != int(from/3) || p.d.Synced(l[len(l)-1]) != 9*int(from%3) {
				t.Fatalf("cut at %d: %q", from, l)
			}
		}
		// What was cut is there no more, behind an opening too, and others take its place.
		openBoth(t, p.d, "w", 20)
		p.append(t, "A", "B", "C", "D")
		p.cut(t, p.w.Next()-2)
		p.append(t, "E")
		openBoth(t, p.d, "w", 20)
	}
	for _, from := range []uint64{1 << 32, 1 << 63, math.MaxUint64} {
		p := three(t, 1000)
		p.cut(t, from)
		mustBe(t, p.w, 3, 11)
	}
}

func TestCutOfALogWithoutRecords(t *testing.T) { // P7.4
	p := openBoth(t, disk.New(1000), "w", 20)
	must(t, p.w.Cut(0), api.ErrArg)
	for _, from := range []uint64{1, 2, math.MaxUint64} {
		p.cut(t, from)
	}
	mustHave(t, p.d)
	p = openBoth(t, diskOf(t, 1000, nameOf("w", 5), ""), "w", 20)
	for _, from := range []uint64{0, 1, 4} {
		must(t, p.w.Cut(from), api.ErrArg)
	}
	for _, from := range []uint64{5, 6, math.MaxUint64} {
		p.cut(t, from)
	}
	mustBe(t, p.w, 5, 5)
}

func TestCutToTheFirstRecordLeavesAFile(t *testing.T) { // P7.4, P7.5
	p := three(t, 1000)
	p.cut(t, 3)
	mustBe(t, p.w, 3, 3)
	mustHave(t, p.d, nameOf("w", 3))
	p.d.Crash(nil)
	p = openBoth(t, p.d, "w", 20)
	mustBe(t, p.w, 3, 3)
	p.append(t, "z")
	mustGet(t, p.w, 3, "z", api.OK)
}

func TestACutIsSynced(t *testing.T) { // P7.4, P7.5
	p := openBoth(t, disk.New(1000), "w", 100)
	p.append(t, "a", "b", "c")
	p.cut(t, 3)
	if n := p.d.Synced(nameOf("w", 1)); n != 18 {
		t.Fatalf("%d synced", n)
	}
	p.append(t, "d")
	p.d.Crash(nil)
	w := mustOpen(t, p.d, "w", 100)
	mustBe(t, w, 1, 3)
	mustGet(t, w, 2, "b", api.OK)
}

func TestCutWithoutRoomForTheSpareFile(t *testing.T) { // P7.4, R2
	for from := uint64(3); from < 11; from++ {
		for free := range 40 {
			p := three(t, 72+free)
			p.cut(t, from) // what is done, and what is not, is as the words say
			room := free
			if from < 9 {
				room += 18
			}
			if from < 6 {
				room += 27
			}
			if room >= 9*int(from%3) {
				mustBe(t, p.w, 3, from)
				continue
			}
			// The last file that is left is as it was, and so is what it has.
			must(t, p.w.Cut(from), api.ErrFull)
			if p.w.Next() <= from {
				t.Fatalf("Next = %d", p.w.Next())
			}
			mustHave(t, p.d, p.s.d.List("")...)
			openBoth(t, p.d, "w", 20)
			// With room it is done.
			must(t, p.w.Drop(math.MaxUint64), api.OK)
			must(t, p.s.drop(math.MaxUint64), api.OK)
			p.cut(t, from)
		}
	}
	// Just as many bytes as are left, and one fewer, are free.
	for free, want := range map[int]api.Errno{17: api.ErrFull, 18: api.OK, 0: api.ErrFull} {
		p := openBoth(t, disk.New(27+free), "w", 100)
		p.append(t, "a", "b", "c")
		must(t, p.w.Cut(3), want)
		must(t, p.s.cut(3), want)
		same(t, p.w, p.d, p.s)
	}
	// To cut all of a file no room is needed.
	p := openBoth(t, disk.New(9), "w", 100)
	p.append(t, "a")
	must(t, p.w.Cut(1), api.OK)
	if p.d.Free() != 9 {
		t.Fatalf("%d free", p.d.Free())
	}
}

func TestAfterACutTheFilesSizeIsCountedAnew(t *testing.T) { // P7.3, P7.4
	p := openBoth(t, disk.New(1000), "w", 27)
	p.append(t, "a", "b", "c")
	p.cut(t, 3)
	p.append(t, "d", "e")
	mustHave(t, p.d, nameOf("w", 1), nameOf("w", 4))
	p.cut(t, 4)
	p.append(t, "f")
	mustHave(t, p.d, nameOf("w", 1), nameOf("w", 4))
}

func TestRecordsBehindACutDoNotMixWithThoseAhead(t *testing.T) { // P7.4
	p := openBoth(t, disk.New(10000), "w", 1000)
	for i := range 20 {
		p.append(t, fmt.Sprint("old", i))
	}
	for from := uint64(20); from > 3; from -= 3 {
		p.cut(t, from)
		p.append(t, fmt.Sprint("new", from))
		mustGet(t, p.w, from-1, fmt.Sprint("old", from-2), api.OK)
		mustGet(t, p.w, from, fmt.Sprint("new", from), api.OK)
		p.cut(t, from)
	}
}

func TestDrop(t *testing.T) { // P7.4
	for to := range uint64(14) {
		p := three(t, 1000)
		p.drop(t, to)
		first := uint64(3)
		switch {
		case to >= 9:
			first = 9
		case to >= 6:
			first = 6
		}
		mustBe(t, p.w, first, 11)
		mustGet(t, p.w, first-1, "", api.ErrNone)
		p.drop(t, to) // there is nothing more to it
		openBoth(t, p.d, "w", 20)
		p.append(t, "i", "j")
		p.drop(t, 12)
		openBoth(t, p.d, "w", 20)
	}
	for _, to := range []uint64{1 << 32, 1 << 63, math.MaxUint64} {
		p := three(t, 1000)
		p.drop(t, to)
		mustBe(t, p.w, 9, 11)
		mustHave(t, p.d, nameOf("w", 9))
	}
}

func TestDropNeedsNoRoomAndTouchesNoFileThatStays(t *testing.T) { // P7.4
	p := three(t, 72)
	if p.d.Free() != 0 {
		t.Fatalf("%d free", p.d.Free())
	}
	p.drop(t, 8)
	if p.d.Free() != 27 || p.d.Synced(nameOf("w", 9)) != 9 {
		t.Fatalf("%d free, %d synced", p.d.Free(), p.d.Synced(nameOf("w", 9)))
	}
	mustHave(t, p.d, nameOf("w", 6), nameOf("w", 9))
}

func TestTheLastFileIsNeverDropped(t *testing.T) { // P7.4, P7.5
	p := openBoth(t, disk.New(1000), "w", 20)
	p.drop(t, math.MaxUint64)
	p.append(t, "a")
	p.drop(t, math.MaxUint64)
	mustBe(t, p.w, 1, 2)
	p.cut(t, 1)
	p.drop(t, math.MaxUint64)
	mustHave(t, p.d, nameOf("w", 1))
	// An empty last file stays too, so that numbers go on.
	p = openBoth(t, diskOf(t, 1000, nameOf("w", 5), slowFrames("a", "b"), nameOf("w", 7), ""), "w", 20)
	p.drop(t, 6)
	mustBe(t, p.w, 5, 7)
	p.drop(t, 7)
	mustBe(t, p.w, 7, 7)
	mustHave(t, p.d, nameOf("w", 7))
	p.append(t, "c")
	mustGet(t, p.w, 7, "c", api.OK)
}

// lasting is what P7.5 speaks of: what a log had, and how far it was synced.
type lasting struct {
	first   uint64
	records []string
	synced  uint64 // all below it were appended ahead of the last Sync
}

func (l *lasting) next() uint64 { return l.first + uint64(len(l.records)) }

// behindACrash opens a log on what a crash of d leaves, and holds it against
// what must be there, and what may.
func (l *lasting) behindACrash(t *testing.T, d *disk.Disk, most int, keep ...int) (*disk.Disk, *Wal) {
	t.Helper()
	d = d.Copy()
	d.Crash(keep)
	w := mustOpen(t, d, "w", most)
	if w.First() != l.first || w.Next() < l.synced || w.Next() > l.next() {
		t.Fatalf("behind a crash the log is %d to %d; it was %d to %d, synced to %d", w.First(), w.Next(), l.first, l.next(), l.synced)
	}
	for n := l.first; n < w.Next(); n++ {
		mustGet(t, w, n, l.records[n-l.first], api.OK)
	}
	return d, w
}

// behindAnyCrash goes through all that a loss of power may leave of the log.
func (l *lasting) behindAnyCrash(t *testing.T, d *disk.Disk, most int) {
	t.Helper()
	u := 0
	for _, name := range d.List("w") {
		data, _ := d.Read(name)
		u = max(u, len(data)-d.Synced(name))
	}
	for n := range u + 1 {
		c, w := l.behindACrash(t, d, most, slices.Repeat([]int{n}, len(d.List("")))...)
		// What is there then lasts, and numbers go on.
		next := w.Next()
		must(t, w.Append("on"), api.OK)
		must(t, w.Sync(), api.OK)
		c.Crash(nil)
		w = mustOpen(t, c, "w", most)
		mustBe(t, w, l.first, next+1)
		mustGet(t, w, next, "on", api.OK)
	}
}

// doLasting does one thing to a log that has no lack of room, and tells of it.
func doLasting(t *testing.T, d *disk.Disk, w *Wal, l *lasting, next func(int) int) {
	t.Helper()
	switch next(9) {
	case 0, 1, 2, 3:
		record := strings.Repeat(string(rune('a'+next(26))), next(12))
		must(t, w.Append(record), api.OK)
		l.records = append(l.records, record)
	case 4, 5:
		must(t, w.Sync(), api.OK)
		l.synced = l.next()
	case 6:
		from := l.first + uint64(next(len(l.records)+2))
		must(t, w.Cut(from), api.OK)
		if from < l.next() {
			l.records = l.records[:from-l.first]
			l.synced = min(l.synced, from)
		}
	case 7, 8:
		to := l.first + uint64(next(len(l.records)+2))
		must(t, w.Drop(to), api.OK)
		// A drop goes as far as files do, and never beyond what it was told.
		if w.First() < l.first || w.First() > max(to, l.first) || w.First() > l.next() {
			t.Fatalf("Drop(%d) of %d to %d: First = %d", to, l.first, l.next(), w.First())
		}
		l.records = l.records[w.First()-l.first:]
		l.first = w.First()
		l.synced = max(l.synced, l.first)
	}
	mustBe(t, w, l.first, l.next())
}

func TestWhatLastsBehindACrash(t *testing.T) { // P7.5, W8
	r := rand.New(rand.NewSource(7))
	for range 300 {
		most := 1 + r.Intn(40)
		d := disk.New(1 << 20)
		must(t, d.Append("other", "of others"), api.OK)
		w := mustOpen(t, d, "w", most)
		l := &lasting{first: 1, synced: 1}
		for range 25 {
			doLasting(t, d, w, l, r.Intn)
			l.behindAnyCrash(t, d, most)
			if r.Intn(10) == 0 {
				d, w = l.behindACrash(t, d, most, r.Intn(30), r.Intn(30), r.Intn(30), r.Intn(30), r.Intn(30), r.Intn(30))
				l.records = l.records[:w.Next()-l.first]
				l.synced = w.Next()
			}
		}
	}
}

func TestACrashWithinARecord(t *testing.T) { // P7.5, P7.1
	for keep := range 50 {
		d := disk.New(1000)
		w := mustOpen(t, d, "w", 20)
		for _, r := range []string{"a", "b", "cc", "d", "ee"} { // files 1 (28 bytes) and 4
			must(t, w.Append(r), api.OK)
		}
		must(t, w.Append(""), api.OK)
		d.Crash([]int{0, keep})
		w = mustOpen(t, d, "w", 20)
		next := uint64(4)
		for _, end := range []int{9, 19, 27} {
			if keep%28 >= end {
				next++
			}
		}
		mustBe(t, w, 1, next)
		mustGet(t, w, 3, "cc", api.OK)
	}
}

func TestAFullFileIsSyncedAheadOfANewOne(t *testing.T) { // P7.3, P7.5
	d := disk.New(1000)
	w := mustOpen(t, d, "w", 9)
	for _, r := range []string{"a", "b", "c"} {
		must(t, w.Append(r), api.OK)
	}
	d.Crash([]int{0, 0, 9})
	w = mustOpen(t, d, "w", 9)
	mustBe(t, w, 1, 4)
	for i, r := range []string{"a", "b", "c"} {
		mustGet(t, w, uint64(1+i), r, api.OK)
	}
}

func TestWhatCutAndDropDidLasts(t *testing.T) { // P7.5
	for _, keep := range [][]int{nil, {-1, -1, -1, -1}, {1, 2, 3, 4}} {
		p := three(t, 1000)
		p.append(t, "i", "j")
		p.cut(t, 8)
		p.drop(t, 6)
		p.d.Crash(keep)
		w := mustOpen(t, p.d, "w", 20)
		mustBe(t, w, 6, 8)
		mustGet(t, w, 6, "d", api.OK)
		mustGet(t, w, 7, "e", api.OK)
		must(t, w.Append("new"), api.OK)
		mustGet(t, w, 8, "new", api.OK)
	}
}

func TestALogThatIsNone(t *testing.T) { // P7.2, R1, R3
	var zero Wal
	for name, w := range map[string]*Wal{"nil": nil, "new": new(Wal), "zero": &zero, "a literal": {}} {
		for range 2 {
			for _, n := range []uint64{0, 1, 2, top, math.MaxUint64} {
				for what, e := range map[string]api.Errno{
					"Append": w.Append(""), "Append of a record": w.Append("record"), "Append of a long one": w.Append(strings.Repeat("r", 1<<20+1)),
					"Sync": w.Sync(), "Cut": w.Cut(n), "Drop": w.Drop(n),
				} {
					if e != api.ErrNil {
						t.Errorf("%s: %s with %d: %d", name, what, n, e)
					}
				}
				if s, e := w.Get(n); s != "" || e != api.ErrNil {
					t.Errorf("%s: Get = %q, %d", name, s, e)
				}
			}
			if w.First() != 0 || w.Next() != 0 {
				t.Errorf("%s: %d to %d", name, w.First(), w.Next())
			}
		}
	}
}

func TestALogWhoseFilesOthersTookDoesNotPanic(t *testing.T) { // R1
	for _, take := range []func(d *disk.Disk){
		func(d *disk.Disk) {
			for _, name := range d.List("") {
				d.Remove(name)
			}
		},
		func(d *disk.Disk) { d.Remove(nameOf("w", 3)); d.Remove(nameOf("w", 9)) },
		func(d *disk.Disk) { d.Crash(nil) },
		func(d *disk.Disk) { d.Append(nameOf("w", 9), "more"); d.Rename(nameOf("w", 3), nameOf("w", 6)) },
	} {
		for n := range uint64(13) {
			p := three(t, 1000)
			take(p.d)
			p.w.Get(n)
			p.w.Append("x")
			p.w.Cut(n)
			p.w.Append("y")
			p.w.Sync()
			p.w.Drop(n)
			p.w.Cut(n)
			p.w.Append("z")
			for i := p.w.First(); i < p.w.Next(); i++ {
				p.w.Get(i)
			}
		}
	}
}

// anyBytes is what may stand in a file: frames, and at times something behind.
func anyBytes(next func(int) int) (string, int) {
	count := next(4)
	s := ""
	for range count {
		s += slowFrame(strings.Repeat(string(rune('A'+next(26))), next(6)))
	}
	switch next(8) {
	case 0:
		s += strings.Repeat("\x00", 1+next(12))
	case 1:
		s += slowFrame("torn")[:1+next(11)]
	case 2:
		b := []byte(s + slowFrame("turned"))
		b[len(b)-1-next(14)] ^= 1 << next(8)
		s = string(b)
	}
	return s, count
}

// anyDisk has some files of a log, mostly such that follow one another, and others.
func anyDisk(t *testing.T, room int, prefix string, next func(int) int) *disk.Disk {
	t.Helper()
	d := disk.New(room)
	for _, name := range []string{"other", prefix + "tmp", prefix + "0", nameOf(prefix, 0), nameOf(prefix, top+1), nameOf("0"+prefix, 1)} {
		if next(4) == 0 && len(name) <= 64 {
			d.Append(name, "xyz"[:next(4)])
		}
	}
	number := uint64(1 + next(3))
	if next(8) == 0 {
		number = top - uint64(next(6))
	}
	for range next(5) {
		data, count := anyBytes(next)
		if d.Append(nameOf(prefix, number), data) == api.OK && next(2) == 0 {
			d.Sync(nameOf(prefix, number))
		}
		number += uint64(count)
		if next(8) == 0 {
			number++
		}
		number = min(number, top+5)
	}
	return d
}

// doAny does one thing to both, as the numbers say, and holds what comes of it
// against one another.
func doAny(t *testing.T, p *pair, next func(int) int) {
	t.Helper()
	near := func() uint64 {
		switch next(10) {
		case 0:
			return []uint64{0, 1, top, math.MaxUint64}[next(4)]
		case 1:
			return p.w.First() - 1
		}
		return p.w.First() + uint64(next(int(p.w.Next()-p.w.First())+2))
	}
	switch next(9) {
	case 0, 1, 2, 3:
		p.append(t, strings.Repeat(string(rune('a'+next(26))), next(14)))
	case 4:
		p.sync(t)
	case 5:
		p.cut(t, near())
	case 6:
		p.drop(t, near())
	case 7:
		keep := make([]int, next(12))
		for i := range keep {
			keep[i] = next(60) - 20
		}
		p.d.Crash(keep)
		p.s.d.Crash(keep)
		fallthrough
	case 8:
		prefix, most := p.s.prefix, p.s.most
		if next(4) == 0 {
			most = 1 + next(40)
		}
		d := p.d
		*p = openBoth(t, d, prefix, most)
		if p.w == nil {
			// There was no room for the spare file: it is made.
			*p = openBoth(t, moreRoom(t, d), prefix, most)
		}
	}
}

// moreRoom is a disk with the same, and room for all of it once more.
func moreRoom(t *testing.T, d *disk.Disk) *disk.Disk {
	t.Helper()
	c := disk.New(4096)
	for _, name := range d.List("") {
		data, _ := d.Read(name)
		must(t, c.Append(name, data[:d.Synced(name)]), api.OK)
		must(t, c.Sync(name), api.OK)
		must(t, c.Append(name, data[d.Synced(name):]), api.OK)
	}
	return c
}

func anyPair(t *testing.T, next func(int) int) pair {
	t.Helper()
	prefix := []string{"w", "", "g3/r", strings.Repeat("p", 48)}[next(4)]
	room := 40 + next(160)
	most := 1 + next(40)
	d := anyDisk(t, room, prefix, next)
	p := openBoth(t, d, prefix, most)
	if p.w == nil {
		p = openBoth(t, moreRoom(t, d), prefix, most)
	}
	return p
}

func TestAnyThingsDoneToAnyLogs(t *testing.T) { // P7.1 to P7.5, W8, R6
	r := rand.New(rand.NewSource(77))
	for range 3000 {
		p := anyPair(t, r.Intn)
		for range 40 {
			doAny(t, &p, r.Intn)
		}
	}
}

func TestTheSameDoneIsTheSame(t *testing.T) { // R6
	for seed := range int64(60) {
		ra, rb := rand.New(rand.NewSource(seed)), rand.New(rand.NewSource(seed))
		a, b := anyPair(t, ra.Intn), anyPair(t, rb.Intn)
		for range 40 {
			doAny(t, &a, ra.Intn)
			doAny(t, &b, rb.Intn)
			same(t, a.w, a.d, b.s)
			same(t, b.w, b.d, a.s)
		}
	}
}

func TestALogOpenedAnewIsTheSame(t *testing.T) { // P7.1, R6: what is kept in memory is what the files say
	r := rand.New(rand.NewSource(777))
	for range 300 {
		p := anyPair(t, r.Intn)
		for range 20 {
			doAny(t, &p, r.Intn)
			again := mustOpen(t, p.d.Copy(), p.s.prefix, p.s.most)
			mustBe(t, again, p.w.First(), p.w.Next())
			for n := again.First(); n < again.Next(); n++ {
				want, _ := p.w.Get(n)
				mustGet(t, again, n, want, api.OK)
			}
		}
	}
}

func TestWhatIsHandedInIsNotKept(t *testing.T) { // R5
	// Texts made over bytes that change later: what was kept of them would too.
	raw := []byte("prefix-and-a-record-and-more")
	text := unsafe.String(unsafe.SliceData(raw), len(raw))
	d := disk.New(1000)
	w := mustOpen(t, d, text[:6], 20)
	must(t, w.Append(text[11:19]), api.OK)
	must(t, w.Append(text[7:10]), api.OK)
	must(t, w.Append(text[20:]), api.OK)
	for i := range raw {
		raw[i] = '#'
	}
	mustGet(t, w, 1, "a-record", api.OK)
	mustGet(t, w, 2, "and", api.OK)
	mustGet(t, w, 3, "and-more", api.OK)
	must(t, w.Append("4"), api.OK)
	must(t, w.Append("5"), api.OK)
	mustHave(t, d, nameOf("prefix", 1), nameOf("prefix", 3), nameOf("prefix", 5))
	must(t, w.Cut(4), api.OK)
	mustHave(t, d, nameOf("prefix", 1), nameOf("prefix", 3))
	again := mustOpen(t, d, "prefix", 20)
	mustBe(t, again, 1, 4)
	mustGet(t, again, 1, "a-record", api.OK)
}

func TestAnswersAreNewMemory(t *testing.T) { // R5
	place := func(s string) uintptr { return uintptr(unsafe.Pointer(unsafe.StringData(s))) }
	shares := func(a, b string) bool {
		return place(a) < place(b)+uintptr(len(b)) && place(b) < place(a)+uintptr(len(a))
	}
	record := strings.Repeat("record", 9)
	d := disk.New(1000)
	w := mustOpen(t, d, "w", 1)
	must(t, w.Append(record), api.OK)
	for _, w := range []*Wal{w, mustOpen(t, d, "w", 1)} {
		one, _ := w.Get(1)
		two, _ := w.Get(1)
		if one != record || two != record {
			t.Fatalf("%q, %q", one, two)
		}
		if shares(one, two) || shares(one, record) || shares(one, w.files[0].records[0]) || shares(record, w.files[0].records[0]) {
			t.Error("what is answered shares")
		}
	}
}

func TestTheDiskIsKept(t *testing.T) { // ahead of P7.1
	d := disk.New(30)
	w := mustOpen(t, d, "w", 20)
	must(t, d.Append("other", strings.Repeat("o", 20)), api.OK)
	must(t, w.Append("aaa"), api.ErrFull)
	must(t, d.Remove("other"), api.OK)
	must(t, w.Append("aaa"), api.OK)
	if s, e := d.Read(nameOf("w", 1)); s != slowFrame("aaa") || e != api.OK {
		t.Fatalf("%q, %d", s, e)
	}
}

func TestManyRecordsAndFilesInTime(t *testing.T) { // R1
	for _, most := range []int{1, 4096, math.MaxInt} {
		const count = 1 << 17
		d := disk.New(math.MaxInt)
		w := mustOpen(t, d, "w", most)
		for i := range count {
			if e := w.Append(string([]byte{byte(i >> 16), byte(i >> 8), byte(i)})); e != api.OK {
				t.Fatal(e)
			}
		}
		w = mustOpen(t, d, "w", most)
		mustBe(t, w, 1, count+1)
		for i := range count {
			if s, e := w.Get(uint64(i + 1)); e != api.OK || s != string([]byte{byte(i >> 16), byte(i >> 8), byte(i)}) {
				t.Fatalf("Get(%d) = %q, %d", i+1, s, e)
			}
		}
		must(t, w.Cut(count/2), api.OK)
		mustBe(t, w, 1, count/2)
		must(t, w.Drop(count), api.OK)
		if w.Next() != count/2 || len(d.List("w")) != 1 {
			t.Fatalf("%d to %d, %d files", w.First(), w.Next(), len(d.List("w")))
		}
	}
}

func FuzzLogsDoAsTheWordsSay(f *testing.F) { // P7.1 to P7.5, W8, R1
	f.Add([]byte{0, 60, 19, 1, 1, 1, 1, 1, 1, 0, 1, 0, 0, 0, 5, 1, 1, 3, 4, 5, 0, 2})
	f.Add([]byte("a log of records in files of a disk, each record numbered, each file begun with a number"))
	f.Add([]byte{3, 0, 0, 0, 0, 0, 0, 0, 0, 2, 0, 4, 3, 3, 3, 2, 2, 1, 1, 0, 7, 7, 7, 8, 8, 5, 5, 6, 6})
	f.Fuzz(func(t *testing.T, told []byte) {
		told = told[:min(len(told), 1<<10)] // the slow log is too slow for more
		next := func(n int) int {
			if len(told) == 0 {
				return 0
			}
			v := int(told[0]) % n
			told = told[1:]
			return v
		}
		p := anyPair(t, next)
		for len(told) > 0 {
			doAny(t, &p, next)
		}
	})
}
