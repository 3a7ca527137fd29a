package disk

import (
	"bytes"
	"math"
	"math/big"
	"math/rand"
	"slices"
	"strings"
	"testing"
	"unsafe"

	"acreage/api"
)

// slow is a disk as the chapter words it: files in a row, in the order of their
// names, and what is used counted anew each time.
type slow struct {
	room  int
	files []slowFile
}

type slowFile struct {
	name, data string
	synced     int
}

func slowNew(room int) *slow {
	if room < 0 {
		room = 0
	}
	return &slow{room: room}
}

func slowName(s string) bool { return 1 <= len(s) && len(s) <= 64 }

func (s *slow) used() int {
	sum := 0
	for _, f := range s.files {
		sum += len(f.data)
	}
	return sum
}

func (s *slow) at(name string) int {
	return slices.IndexFunc(s.files, func(f slowFile) bool { return f.name == name })
}

func (s *slow) put(f slowFile) {
	at := 0
	for at < len(s.files) && s.files[at].name < f.name {
		at++
	}
	s.files = slices.Insert(s.files, at, f)
}

func (s *slow) append(name, data string) api.Errno {
	if !slowName(name) {
		return api.ErrArg
	}
	if len(data) > s.room-s.used() {
		return api.ErrFull
	}
	if at := s.at(name); at >= 0 {
		s.files[at].data += data
	} else {
		s.put(slowFile{name: name, data: data})
	}
	return api.OK
}

func (s *slow) sync(name string) api.Errno {
	at := s.at(name)
	if at < 0 {
		return api.ErrNone
	}
	s.files[at].synced = len(s.files[at].data)
	return api.OK
}

func (s *slow) rename(from, to string) api.Errno {
	if s.at(from) < 0 {
		return api.ErrNone
	}
	if !slowName(to) {
		return api.ErrArg
	}
	if from == to {
		return api.OK
	}
	if s.at(to) >= 0 {
		s.remove(to)
	}
	f := s.files[s.at(from)]
	s.remove(from)
	f.name = to
	s.put(f)
	return api.OK
}

func (s *slow) remove(name string) api.Errno {
	at := s.at(name)
	if at < 0 {
		return api.ErrNone
	}
	s.files = slices.Delete(s.files, at, at+1)
	return api.OK
}

// modulo is worked out on numbers without bounds, as a class from 0 to n - 1.
func modulo(v, n int) int {
	return int(new(big.Int).Mod(big.NewInt(int64(v)), big.NewInt(int64(n))).Int64())
}

func (s *slow) crash(keep []int) {
	for k := range s.files {
		f := &s.files[k]
		n := 0
		if k < len(keep) {
			n = modulo(keep[k], len(f.data)-f.synced+1)
		}
		f.data = f.data[:f.synced+n]
		f.synced = len(f.data)
	}
}

func (s *slow) copy() *slow { return &slow{room: s.room, files: slices.Clone(s.files)} }

// same holds a disk against the words, by all that it can tell.
func same(t *testing.T, d *Disk, s *slow) {
	t.Helper()
	var names []string
	for _, f := range s.files {
		names = append(names, f.name)
		if got, e := d.Read(f.name); e != api.OK || got != f.data {
			t.Fatalf("Read(%q) = %q, %d, not %q", f.name, got, e, f.data)
		}
		if n := d.Synced(f.name); n != f.synced {
			t.Fatalf("Synced(%q) = %d, not %d", f.name, n, f.synced)
		}
	}
	if l := d.List(""); !slices.Equal(l, names) {
		t.Fatalf("the files are %q, not %q", l, names)
	}
	if n := d.Free(); n != s.room-s.used() || n < 0 {
		t.Fatalf("%d are free of %d, of which %d are used", n, s.room, s.used())
	}
}

// of is a disk that has these files.
func of(t *testing.T, room int, files ...slowFile) (*Disk, *slow) {
	t.Helper()
	d, s := New(room), slowNew(room)
	for _, f := range files {
		must(t, d.Append(f.name, f.data[:f.synced]), api.OK)
		must(t, d.Sync(f.name), api.OK)
		must(t, d.Append(f.name, f.data[f.synced:]), api.OK)
		s.put(f)
	}
	same(t, d, s)
	return d, s
}

func must(t *testing.T, got, want api.Errno) {
	t.Helper()
	if got != want {
		t.Fatalf("answered %d, not %d", got, want)
	}
}

func mustRead(t *testing.T, d *Disk, name, want string, err api.Errno) {
	t.Helper()
	if s, e := d.Read(name); s != want || e != err {
		t.Fatalf("Read(%q) = %q, %d, not %q, %d", name, s, e, want, err)
	}
}

func TestTheChaptersExamples(t *testing.T) { // P6.1 to P6.5
	d := New(5)
	must(t, d.Append("a", "abc"), api.OK)
	must(t, d.Append("b", "xyz"), api.ErrFull)
	must(t, d.Append("b", "x"), api.OK)
	if d.Free() != 1 {
		t.Errorf("%d free", d.Free())
	}
	must(t, d.Sync("a"), api.OK)
	must(t, d.Append("a", "d"), api.OK)
	d.Crash(nil)
	mustRead(t, d, "a", "abc", api.OK)
	mustRead(t, d, "b", "", api.OK)
	if l := d.List(""); !slices.Equal(l, []string{"a", "b"}) {
		t.Errorf("List = %q", l)
	}
	must(t, d.Append("a", "de"), api.OK)
	d.Crash([]int{-1})
	mustRead(t, d, "a", "abcde", api.OK)
	if d.Synced("a") != 5 {
		t.Errorf("%d synced", d.Synced("a"))
	}
	must(t, d.Rename("a", "b"), api.OK)
	mustRead(t, d, "b", "abcde", api.OK)
	mustRead(t, d, "a", "", api.ErrNone)
	must(t, d.Remove("b"), api.OK)
	must(t, d.Remove("b"), api.ErrNone)
	must(t, d.Sync("b"), api.ErrNone)
	must(t, d.Append("", "x"), api.ErrArg)
	var none *Disk
	must(t, none.Append("a", "x"), api.ErrNil)
	mustRead(t, none, "a", "", api.ErrNil)
	if none.Free() != 0 || none.Copy() != nil {
		t.Error("a nil disk has room, or a copy")
	}
}

func TestTheDocumentsExample(t *testing.T) { // P6.5
	// Of a file of four synced bytes and three more a loss of power leaves four to seven.
	for keep, want := range []string{"safe", "safe1", "safe12", "safe123", "safe"} {
		d, _ := of(t, 7, slowFile{"f", "safe123", 4})
		d.Crash([]int{keep})
		mustRead(t, d, "f", want, api.OK)
	}
}

func TestNewDisksHaveRoomAndNoFiles(t *testing.T) { // P6.1
	for _, c := range []struct{ room, free int }{
		{math.MinInt, 0}, {math.MinInt + 1, 0}, {-1 << 31, 0}, {-2, 0}, {-1, 0}, {0, 0},
		{1, 1}, {2, 2}, {64, 64}, {4096, 4096}, {1 << 31, 1 << 31}, {1 << 40, 1 << 40}, {math.MaxInt - 1, math.MaxInt - 1}, {math.MaxInt, math.MaxInt},
	} {
		d := New(c.room)
		if d == nil {
			t.Fatalf("New(%d) is none", c.room)
		}
		if d.Free() != c.free {
			t.Errorf("New(%d) has %d free", c.room, d.Free())
		}
		if l := d.List(""); len(l) != 0 {
			t.Errorf("New(%d) has files: %q", c.room, l)
		}
		mustRead(t, d, "a", "", api.ErrNone)
		// A file of no bytes needs no room.
		must(t, d.Append("a", ""), api.OK)
		mustRead(t, d, "a", "", api.OK)
		if d.Free() != c.free {
			t.Errorf("New(%d) has %d free behind an empty file", c.room, d.Free())
		}
		want := api.OK
		if c.free == 0 {
			want = api.ErrFull
		}
		must(t, d.Append("a", "x"), want)
	}
}

func TestRoomIsFilledToItsLastByte(t *testing.T) { // P6.2, P6.6
	for _, room := range []int{0, 1, 2, 7, 64, 4096} {
		all := strings.Repeat("r", room)
		d := New(room)
		must(t, d.Append("f", all+"r"), api.ErrFull)
		mustRead(t, d, "f", "", api.ErrNone)
		must(t, d.Append("f", all), api.OK)
		mustRead(t, d, "f", all, api.OK)
		if d.Free() != 0 {
			t.Errorf("of %d %d are free", room, d.Free())
		}
		must(t, d.Append("f", "r"), api.ErrFull)
		must(t, d.Append("g", "r"), api.ErrFull)
		must(t, d.Append("f", ""), api.OK)
		must(t, d.Append("h", ""), api.OK)
		mustRead(t, d, "f", all, api.OK)
		if l := d.List(""); !slices.Equal(l, []string{"f", "h"}) || d.Free() != 0 {
			t.Errorf("of %d: %q, %d free", room, l, d.Free())
		}
		must(t, d.Remove("f"), api.OK)
		if d.Free() != room {
			t.Errorf("of %d %d are free behind Remove", room, d.Free())
		}
	}
}

func TestRoomOfOtherFilesCounts(t *testing.T) { // P6.1, P6.2
	d := New(10)
	must(t, d.Append("a", "123"), api.OK)
	must(t, d.Append("b", "4567"), api.OK)
	must(t, d.Append("a", "8901"), api.ErrFull)
	must(t, d.Append("c", "8901"), api.ErrFull)
	must(t, d.Append("c", "89"), api.OK)
	must(t, d.Append("b", "01"), api.ErrFull)
	must(t, d.Append("b", "0"), api.OK)
	if d.Free() != 0 {
		t.Errorf("%d free", d.Free())
	}
	mustRead(t, d, "a", "123", api.OK)
	mustRead(t, d, "b", "45670", api.OK)
	mustRead(t, d, "c", "89", api.OK)
}

// badNames may not be names of files.
var badNames = []string{"", strings.Repeat("n", 65), strings.Repeat("\x00", 65), strings.Repeat("é", 33), strings.Repeat("n", 4096)}

// goodNames may be, whatever bytes they have.
var goodNames = []string{"a", "\x00", "\xff", "/", "..", " ", "\n", "é", "\xc3", strings.Repeat("n", 63), strings.Repeat("n", 64), strings.Repeat("\x00", 64), strings.Repeat("\xff", 64), strings.Repeat("é", 32)}

func TestWhichNamesMayBe(t *testing.T) { // P6.2, P6.4
	for _, name := range goodNames {
		d := New(9)
		must(t, d.Append(name, "xy"), api.OK)
		mustRead(t, d, name, "xy", api.OK)
		if l := d.List(""); !slices.Equal(l, []string{name}) {
			t.Errorf("of %q: %q", name, l)
		}
		must(t, d.Append("other", "z"), api.OK)
		must(t, d.Rename("other", name), api.OK)
		mustRead(t, d, name, "z", api.OK)
		must(t, d.Remove(name), api.OK)
	}
	for _, name := range badNames {
		for _, data := range []string{"", "x", "more than there is room for"} {
			d, s := of(t, 9, slowFile{"f", "abc", 2})
			// Of several faults the first one counts: the name ahead of the room.
			must(t, d.Append(name, data), api.ErrArg)
			same(t, d, s)
		}
		d, s := of(t, 9, slowFile{"f", "abc", 2})
		must(t, d.Rename("f", name), api.ErrArg)
		same(t, d, s)
		// There is no file from: that ahead of the name.
		must(t, d.Rename("none", name), api.ErrNone)
		must(t, d.Rename(name, "f"), api.ErrNone)
		must(t, d.Rename(name, name), api.ErrNone)
		must(t, d.Sync(name), api.ErrNone)
		must(t, d.Remove(name), api.ErrNone)
		mustRead(t, d, name, "", api.ErrNone)
		if n := d.Synced(name); n != 0 {
			t.Errorf("Synced(%q) = %d", name, n)
		}
		same(t, d, s)
	}
}

func TestNamesAreToldApartByteByByte(t *testing.T) { // P6.1, P6.2
	d := New(1 << 10)
	for i, name := range goodNames {
		must(t, d.Append(name, strings.Repeat("x", i)), api.OK)
	}
	for i, name := range goodNames {
		mustRead(t, d, name, strings.Repeat("x", i), api.OK)
	}
	if l := d.List(""); !slices.Equal(l, slices.Sorted(slices.Values(goodNames))) {
		t.Errorf("%q", l)
	}
}

func TestAppendPutsBehind(t *testing.T) { // P6.2
	d := New(100)
	whole := ""
	for _, part := range []string{"", "a", "", "bc", "\x00\xff", "d", "", strings.Repeat("e", 40)} {
		whole += part
		must(t, d.Append("f", part), api.OK)
		mustRead(t, d, "f", whole, api.OK)
		if d.Free() != 100-len(whole) || d.Synced("f") != 0 {
			t.Errorf("behind %q: %d free, %d synced", whole, d.Free(), d.Synced("f"))
		}
	}
	must(t, d.Sync("f"), api.OK)
	must(t, d.Append("f", "tail"), api.OK)
	mustRead(t, d, "f", whole+"tail", api.OK)
	if d.Synced("f") != len(whole) {
		t.Errorf("%d synced, not %d", d.Synced("f"), len(whole))
	}
}

func TestAppendOfNoData(t *testing.T) { // P6.2
	d := New(4)
	must(t, d.Append("none", ""), api.OK)
	mustRead(t, d, "none", "", api.OK)
	must(t, d.Append("f", "ab"), api.OK)
	must(t, d.Sync("f"), api.OK)
	must(t, d.Append("f", ""), api.OK)
	mustRead(t, d, "f", "ab", api.OK)
	if d.Synced("f") != 2 || d.Free() != 2 {
		t.Errorf("%d synced, %d free", d.Synced("f"), d.Free())
	}
	if l := d.List(""); !slices.Equal(l, []string{"f", "none"}) {
		t.Errorf("%q", l)
	}
}

func TestSyncIsOfOneFileAndAllItsBytes(t *testing.T) { // P6.3, P6.1
	d, s := of(t, 100, slowFile{"a", "12345", 0}, slowFile{"b", "123", 1}, slowFile{"c", "", 0})
	for _, name := range []string{"a", "c", "b", "b"} {
		must(t, d.Sync(name), api.OK)
		s.sync(name)
		same(t, d, s)
	}
	must(t, d.Sync("d"), api.ErrNone)
	must(t, d.Sync("A"), api.ErrNone)
	same(t, d, s)
	must(t, d.Append("a", "6"), api.OK)
	if d.Synced("a") != 5 {
		t.Errorf("%d synced behind Append", d.Synced("a"))
	}
}

func TestReadChangesNothing(t *testing.T) { // P6.3
	d, s := of(t, 9, slowFile{"a", "12345", 2}, slowFile{"b", "", 0})
	for range 3 {
		mustRead(t, d, "a", "12345", api.OK)
		mustRead(t, d, "b", "", api.OK)
		mustRead(t, d, "c", "", api.ErrNone)
		same(t, d, s)
	}
}

func TestRename(t *testing.T) { // P6.4
	long, tooLong := strings.Repeat("t", 64), strings.Repeat("t", 65)
	for _, c := range []struct {
		from, to string
		want     api.Errno
	}{
		{"a", "new", api.OK}, {"a", "0", api.OK}, {"a", long, api.OK}, {"a", "b", api.OK}, {"b", "a", api.OK}, {"a", "empty", api.OK}, {"empty", "a", api.OK},
		{"a", "a", api.OK}, {"b", "b", api.OK}, {"empty", "empty", api.OK},
		{"a", "", api.ErrArg}, {"a", tooLong, api.ErrArg}, {"empty", "", api.ErrArg},
		{"none", "a", api.ErrNone}, {"none", "none", api.ErrNone}, {"none", "", api.ErrNone}, {"", "a", api.ErrNone}, {"", "", api.ErrNone}, {tooLong, tooLong, api.ErrNone},
	} {
		d, s := of(t, 20, slowFile{"a", "12345", 2}, slowFile{"b", "abc", 3}, slowFile{"empty", "", 0})
		must(t, d.Rename(c.from, c.to), c.want)
		must(t, s.rename(c.from, c.to), c.want)
		same(t, d, s)
		// It lasts, and what is left goes on as any file.
		d.Crash(nil)
		s.crash(nil)
		same(t, d, s)
		must(t, d.Append("a", "more"), api.OK)
		s.append("a", "more")
		same(t, d, s)
	}
}

func TestARenamedFileHasItsBytesAndTheirSync(t *testing.T) { // P6.4
	d, _ := of(t, 20, slowFile{"a", "12345", 2}, slowFile{"b", "abcdefg", 7})
	must(t, d.Rename("a", "b"), api.OK)
	mustRead(t, d, "b", "12345", api.OK)
	mustRead(t, d, "a", "", api.ErrNone)
	if d.Synced("b") != 2 || d.Synced("a") != 0 || d.Free() != 15 {
		t.Errorf("%d and %d synced, %d free", d.Synced("b"), d.Synced("a"), d.Free())
	}
	must(t, d.Append("a", "new"), api.OK)
	mustRead(t, d, "b", "12345", api.OK)
	d.Crash([]int{1, 2})
	mustRead(t, d, "a", "n", api.OK)
	mustRead(t, d, "b", "1234", api.OK)
}

func TestARenamingToItselfIsNothing(t *testing.T) { // P6.4
	d, s := of(t, 5, slowFile{"a", "12345", 2})
	for range 3 {
		must(t, d.Rename("a", "a"), api.OK)
		same(t, d, s)
	}
}

func TestRemove(t *testing.T) { // P6.4
	d, s := of(t, 20, slowFile{"a", "12345", 2}, slowFile{"b", "abc", 3}, slowFile{"empty", "", 0})
	for _, c := range []struct {
		name string
		want api.Errno
	}{{"none", api.ErrNone}, {"", api.ErrNone}, {"b", api.OK}, {"b", api.ErrNone}, {"empty", api.OK}, {"empty", api.ErrNone}, {"a", api.OK}, {"a", api.ErrNone}} {
		must(t, d.Remove(c.name), c.want)
		must(t, s.remove(c.name), c.want)
		same(t, d, s)
	}
	// A file of the same name is a new one.
	must(t, d.Append("a", "new"), api.OK)
	mustRead(t, d, "a", "new", api.OK)
	if d.Synced("a") != 0 {
		t.Errorf("%d synced", d.Synced("a"))
	}
}

func TestRenamesRemovesAndFilesLast(t *testing.T) { // P6.4, P6.6
	d := New(100)
	must(t, d.Append("empty", ""), api.OK)
	must(t, d.Append("lost", "all of it"), api.OK)
	must(t, d.Append("gone", "synced"), api.OK)
	must(t, d.Sync("gone"), api.OK)
	must(t, d.Remove("gone"), api.OK)
	must(t, d.Append("old", "kept"), api.OK)
	must(t, d.Sync("old"), api.OK)
	must(t, d.Rename("old", "new"), api.OK)
	for range 3 {
		d.Crash(nil)
		if l := d.List(""); !slices.Equal(l, []string{"empty", "lost", "new"}) {
			t.Fatalf("%q", l)
		}
		mustRead(t, d, "new", "kept", api.OK)
		mustRead(t, d, "lost", "", api.OK)
		mustRead(t, d, "gone", "", api.ErrNone)
		mustRead(t, d, "old", "", api.ErrNone)
	}
}

func TestListByPrefix(t *testing.T) { // P6.1, R7
	d := New(10)
	for _, name := range []string{"wal2", "b", "wal10", "wal", "a", "wal\xff", "w", "Wal", "wal1", "\x00", "\xff\xff"} {
		must(t, d.Append(name, ""), api.OK)
	}
	for _, c := range []struct {
		prefix string
		want   []string
	}{
		{"", []string{"\x00", "Wal", "a", "b", "w", "wal", "wal1", "wal10", "wal2", "wal\xff", "\xff\xff"}},
		{"w", []string{"w", "wal", "wal1", "wal10", "wal2", "wal\xff"}},
		{"wal", []string{"wal", "wal1", "wal10", "wal2", "wal\xff"}},
		{"wal1", []string{"wal1", "wal10"}},
		{"wal10", []string{"wal10"}},
		{"wal100", nil},
		{"wal\xff", []string{"wal\xff"}},
		{"W", []string{"Wal"}},
		{"al", nil},
		{"x", nil},
		{"\x00", []string{"\x00"}},
		{"\x00\x00", nil},
		{"\xff", []string{"\xff\xff"}},
		{strings.Repeat("w", 65), nil},
		{strings.Repeat("w", 4096), nil},
	} {
		for range 2 {
			if l := d.List(c.prefix); !slices.Equal(l, c.want) {
				t.Errorf("List(%q) = %q, not %q", c.prefix, l, c.want)
			}
		}
	}
}

func TestSyncedOfWhatIsNotThere(t *testing.T) { // P6.1
	d, _ := of(t, 9, slowFile{"a", "123", 3})
	for _, name := range []string{"", "b", "aa", "A", strings.Repeat("a", 65)} {
		if n := d.Synced(name); n != 0 {
			t.Errorf("Synced(%q) = %d", name, n)
		}
	}
	must(t, d.Remove("a"), api.OK)
	if n := d.Synced("a"); n != 0 {
		t.Errorf("%d synced of a file that is gone", n)
	}
}

func TestCrashAtTheEdgesOfKeep(t *testing.T) { // P6.5, P6.6
	for _, c := range []struct{ synced, rest int }{{0, 0}, {0, 1}, {0, 3}, {4, 0}, {4, 1}, {4, 3}, {1, 255}, {255, 256}} {
		u := c.rest
		for _, keep := range []int{
			0, 1, 2, u - 1, u, u + 1, u + 2, 2*u + 1, 2*u + 2, 1 << 31, 1 << 40, math.MaxInt - 1, math.MaxInt,
			-1, -2, -u, -u - 1, -u - 2, -1 << 31, -1 << 40, math.MinInt + 1, math.MinInt,
		} {
			data := strings.Repeat("s", c.synced) + strings.Repeat("u", c.rest)
			d, s := of(t, 1000, slowFile{"f", data, c.synced})
			d.Crash([]int{keep})
			s.crash([]int{keep})
			same(t, d, s)
			left := d.Synced("f")
			if left < c.synced || left > len(data) {
				t.Fatalf("of %d synced, %d more, keep %d: %d are left", c.synced, c.rest, keep, left)
			}
			if d.Free() != 1000-left {
				t.Fatalf("%d left, %d free", left, d.Free())
			}
		}
	}
}

func TestWhatIsKeptOfThree(t *testing.T) { // P6.5
	// u is 3, so that keep is told modulo 4.
	for keep, want := range map[int]string{
		0: "", 1: "x", 2: "xy", 3: "xyz", 4: "", 5: "x", 7: "xyz", 8: "",
		-1: "xyz", -2: "xy", -3: "x", -4: "", -5: "xyz",
		math.MaxInt: "xyz", math.MinInt: "", math.MinInt + 1: "x",
	} {
		d, _ := of(t, 9, slowFile{"f", "xyz", 0})
		d.Crash([]int{keep})
		mustRead(t, d, "f", want, api.OK)
		if d.Synced("f") != len(want) || d.Free() != 9-len(want) {
			t.Errorf("keep %d: %d synced, %d free", keep, d.Synced("f"), d.Free())
		}
	}
}

func TestCrashGoesByTheOrderOfNames(t *testing.T) { // P6.5
	build := func(order ...string) *Disk {
		d := New(100)
		for _, name := range order {
			must(t, d.Append(name, "123456789"), api.OK)
		}
		return d
	}
	for _, order := range [][]string{{"a", "b", "c"}, {"c", "b", "a"}, {"b", "c", "a"}, {"c", "a", "b"}} {
		for range 5 {
			d := build(order...)
			d.Crash([]int{1, 2, 3})
			mustRead(t, d, "a", "1", api.OK)
			mustRead(t, d, "b", "12", api.OK)
			mustRead(t, d, "c", "123", api.OK)
		}
	}
	// Bytes, not letters, and not how long a name is.
	d := build("Z", "a", "aa", "\xff", "\x00", "10", "9")
	d.Crash([]int{1, 2, 3, 4, 5, 6, 7})
	for k, name := range []string{"\x00", "10", "9", "Z", "a", "aa", "\xff"} {
		mustRead(t, d, name, "123456789"[:k+1], api.OK)
	}
}

func TestEachFileHasItsNumberOfKeep(t *testing.T) { // P6.5
	// A file of which all is synced, or that is empty, has a number too.
	d, s := of(t, 100, slowFile{"a", "abc", 3}, slowFile{"b", "", 0}, slowFile{"c", "12345", 1}, slowFile{"d", "123", 0})
	keep := []int{3, 2, 1, -1}
	d.Crash(keep)
	s.crash(keep)
	same(t, d, s)
	mustRead(t, d, "c", "12", api.OK)
	mustRead(t, d, "d", "123", api.OK)
}

func TestKeepMayBeShorterAndLongerThanTheFiles(t *testing.T) { // P6.5
	for _, keep := range [][]int{nil, {}, {2}, {2, 2}, {2, 2, 2}, {2, 2, 2, 2}, {-1, -1, -1, -1, -1, -1}, make([]int, 1000)} {
		d, s := of(t, 100, slowFile{"a", "abcd", 1}, slowFile{"b", "abc", 0}, slowFile{"c", "abcdef", 2})
		d.Crash(keep)
		s.crash(keep)
		same(t, d, s)
	}
	d := New(10)
	for _, keep := range [][]int{nil, {}, {1}, {-1, 5}} {
		d.Crash(keep)
		same(t, d, slowNew(10))
	}
}

func TestACrashOfWhatIsSyncedChangesNothing(t *testing.T) { // P6.6, P6.5
	keeps := [][]int{nil, {0, 0, 0}, {1, 2, 3}, {-1, -1, -1}, {math.MinInt, math.MaxInt, 1 << 32}}
	for _, keep := range keeps {
		d, s := of(t, 20, slowFile{"a", "12345", 5}, slowFile{"b", "", 0}, slowFile{"c", "x", 1})
		d.Crash(keep)
		same(t, d, s)
	}
	// What a crash left is synced, so that a second one takes nothing.
	for _, first := range keeps {
		for _, second := range keeps {
			d, s := of(t, 20, slowFile{"a", "12345", 2}, slowFile{"b", "12", 0}, slowFile{"c", "x", 1})
			d.Crash(first)
			s.crash(first)
			d.Crash(second)
			same(t, d, s)
		}
	}
}

func TestWhatIsPutBehindACrash(t *testing.T) { // P6.2, P6.5, P6.6
	d := New(8)
	must(t, d.Append("a", "12345678"), api.OK)
	d.Crash([]int{3})
	if d.Free() != 5 {
		t.Fatalf("%d free", d.Free())
	}
	must(t, d.Append("a", "123456"), api.ErrFull)
	must(t, d.Append("a", "ABCDE"), api.OK)
	mustRead(t, d, "a", "123ABCDE", api.OK)
	if d.Synced("a") != 3 {
		t.Errorf("%d synced", d.Synced("a"))
	}
	d.Crash([]int{2})
	mustRead(t, d, "a", "123AB", api.OK)
	d.Crash(nil)
	mustRead(t, d, "a", "123AB", api.OK)
}

// turns does one thing after the other to both: each entry is one.
func turns(d *Disk, s *slow) []func() {
	return []func(){
		func() { d.Append("a", "more"); s.append("a", "more") },
		func() { d.Sync("b"); s.sync("b") },
		func() { d.Rename("b", "a"); s.rename("b", "a") },
		func() { d.Append("new", "xy"); s.append("new", "xy") },
		func() { d.Crash([]int{1, 2, 1}); s.crash([]int{1, 2, 1}) },
		func() { d.Append("a", "!"); s.append("a", "!") },
		func() { d.Remove("c"); s.remove("c") },
		func() { d.Append("a", strings.Repeat("f", 30)); s.append("a", strings.Repeat("f", 30)) },
		func() { d.Sync("a"); s.sync("a") },
	}
}

func TestACopyGoesItsOwnWay(t *testing.T) { // P6.1
	begin := func() (d, c *Disk, s, cs *slow) {
		d, s = of(t, 30, slowFile{"a", "12345", 2}, slowFile{"b", "abc", 1}, slowFile{"c", "", 0})
		c = d.Copy()
		if c == nil || c == d {
			t.Fatal("no copy")
		}
		cs = s.copy()
		same(t, c, cs)
		return d, c, s, cs
	}
	// Each number of things ahead at the one, all at the other, and the rest.
	for ahead := range len(turns(nil, nil)) + 1 {
		for _, swap := range []bool{false, true} {
			d, c, s, cs := begin()
			if swap {
				d, c, s, cs = c, d, cs, s
			}
			one, other := turns(d, s), turns(c, cs)
			for _, do := range one[:ahead] {
				do()
				same(t, d, s)
				same(t, c, cs)
			}
			for _, do := range other {
				do()
				same(t, d, s)
				same(t, c, cs)
			}
			for _, do := range one[ahead:] {
				do()
				same(t, d, s)
				same(t, c, cs)
			}
		}
	}
}

func TestCopiesHaveTheSameAndAreFull(t *testing.T) { // P6.1
	for _, room := range []int{-5, 0, 3, math.MaxInt} {
		same(t, New(room).Copy(), slowNew(room))
	}
	d, s := of(t, 8, slowFile{"a", "12345", 2}, slowFile{"b", "abc", 1})
	for range 4 {
		d = d.Copy()
		same(t, d, s)
		must(t, d.Append("a", "x"), api.ErrFull)
	}
	must(t, d.Remove("a"), api.OK)
	if d.Free() != 5 {
		t.Errorf("%d free", d.Free())
	}
}

func TestADiskThatIsNone(t *testing.T) { // P6.1 to P6.5, R1, R3
	var zero Disk
	for name, d := range map[string]*Disk{"nil": nil, "new": new(Disk), "zero": &zero, "a literal": {}} {
		for range 2 {
			for _, f := range []string{"", "a", strings.Repeat("a", 65)} {
				for what, e := range map[string]api.Errno{
					"Append": d.Append(f, ""), "Append of data": d.Append(f, "data"), "Sync": d.Sync(f),
					"Rename": d.Rename(f, f), "Rename from": d.Rename(f, "b"), "Rename to": d.Rename("b", f), "Remove": d.Remove(f),
				} {
					if e != api.ErrNil {
						t.Errorf("%s: %s of %q: %d", name, what, f, e)
					}
				}
				if s, e := d.Read(f); s != "" || e != api.ErrNil {
					t.Errorf("%s: Read = %q, %d", name, s, e)
				}
				if l := d.List(f); len(l) != 0 {
					t.Errorf("%s: List = %q", name, l)
				}
				if n := d.Synced(f); n != 0 {
					t.Errorf("%s: Synced = %d", name, n)
				}
			}
			if n := d.Free(); n != 0 {
				t.Errorf("%s: Free = %d", name, n)
			}
			if c := d.Copy(); c != nil {
				t.Errorf("%s: a copy", name)
			}
			for _, keep := range [][]int{nil, {}, {1, -1, math.MinInt}} {
				d.Crash(keep)
			}
		}
	}
}

func TestWithAnErrorNothingIsDone(t *testing.T) { // P6.6, R2
	d, s := of(t, 9, slowFile{"a", "12345", 2}, slowFile{"b", "ab", 2})
	for range 2 {
		must(t, d.Append("a", "abc"), api.ErrFull)
		must(t, d.Append("c", "abc"), api.ErrFull)
		must(t, d.Append("", "a"), api.ErrArg)
		must(t, d.Append(strings.Repeat("a", 65), "a"), api.ErrArg)
		must(t, d.Sync("c"), api.ErrNone)
		mustRead(t, d, "c", "", api.ErrNone)
		must(t, d.Rename("c", "a"), api.ErrNone)
		must(t, d.Rename("a", ""), api.ErrArg)
		must(t, d.Rename("a", strings.Repeat("b", 65)), api.ErrArg)
		must(t, d.Remove("c"), api.ErrNone)
		same(t, d, s)
		same(t, d.Copy(), s)
	}
}

// doAny does one thing to both, as the numbers say, and holds the answers
// against one another.
func doAny(t *testing.T, d *Disk, s *slow, next func(int) int) {
	t.Helper()
	names := []string{"a", "b", "ab", "a\x00", "\xff", "B", "", strings.Repeat("n", 64), strings.Repeat("n", 65)}
	name := names[next(len(names))]
	switch next(8) {
	case 0, 1, 2:
		data := strings.Repeat(string(rune('a'+next(26))), next(9))
		must(t, d.Append(name, data), s.append(name, data))
	case 3:
		must(t, d.Sync(name), s.sync(name))
	case 4:
		to := names[next(len(names))]
		must(t, d.Rename(name, to), s.rename(name, to))
	case 5:
		must(t, d.Remove(name), s.remove(name))
	case 6:
		keep := make([]int, next(9))
		for i := range keep {
			keep[i] = next(40) - 20
			if next(8) == 0 {
				keep[i] = []int{math.MinInt, math.MaxInt, 1 << 40, -1 << 40}[next(4)]
			}
		}
		wasSynced := s.copy()
		d.Crash(keep)
		s.crash(keep)
		beginnings(t, d, wasSynced)
	case 7:
		_, e := d.Read(name)
		want := api.OK
		if s.at(name) < 0 {
			want = api.ErrNone
		}
		must(t, e, want)
	}
}

// beginnings holds d, behind a crash, against what was there ahead of it: each
// file has what was synced, and some beginning of the rest (P6.6).
func beginnings(t *testing.T, d *Disk, was *slow) {
	t.Helper()
	if len(d.List("")) != len(was.files) {
		t.Fatalf("behind a crash there are %q", d.List(""))
	}
	for _, f := range was.files {
		got, e := d.Read(f.name)
		if e != api.OK || !strings.HasPrefix(f.data, got) || len(got) < f.synced || d.Synced(f.name) != len(got) {
			t.Fatalf("behind a crash %q has %q, %d synced; it had %q, %d synced", f.name, got, d.Synced(f.name), f.data, f.synced)
		}
	}
}

func TestAnyThingsDoneToAnyDisks(t *testing.T) { // P6.1 to P6.6, W8, R6
	r := rand.New(rand.NewSource(6))
	for range 2000 {
		room := r.Intn(40) - 2
		type pair struct {
			d *Disk
			s *slow
		}
		all := []pair{{New(room), slowNew(room)}}
		for range 60 {
			p := all[r.Intn(len(all))]
			if r.Intn(16) == 0 {
				all = append(all, pair{p.d.Copy(), p.s.copy()})
				continue
			}
			doAny(t, p.d, p.s, r.Intn)
			same(t, p.d, p.s)
			if p.s.used() > max(room, 0) {
				t.Fatalf("%d used of %d", p.s.used(), room)
			}
		}
		for _, p := range all {
			same(t, p.d, p.s)
		}
	}
}

func TestTheSameDoneIsTheSame(t *testing.T) { // R6, W1
	for seed := range int64(50) {
		a, b := New(60), New(60)
		as, bs := slowNew(60), slowNew(60)
		ra, rb := rand.New(rand.NewSource(seed)), rand.New(rand.NewSource(seed))
		for range 80 {
			doAny(t, a, as, ra.Intn)
			doAny(t, b, bs, rb.Intn)
			same(t, a, bs)
			same(t, b, as)
		}
	}
}

func TestWhatIsHandedInIsNotChanged(t *testing.T) { // R5
	whole := []int{7, -7, 300, math.MinInt, 5, 6, 1, 2, 3}
	was := slices.Clone(whole)
	for _, keep := range [][]int{whole[2:5], whole[:0], whole, whole[9:], whole[2:5:5]} {
		d, _ := of(t, 100, slowFile{"a", "12345", 2}, slowFile{"b", "ab", 0}, slowFile{"c", "ab", 2}, slowFile{"d", "abc", 0})
		d.Crash(keep)
		if !slices.Equal(whole, was) {
			t.Fatalf("keep is now %d", whole)
		}
	}
}

func TestAKeepThatIsChangedLater(t *testing.T) { // R5
	d, s := of(t, 100, slowFile{"a", "12345", 2}, slowFile{"b", "ab", 0})
	keep := []int{1, 1}
	d.Crash(keep)
	s.crash(keep)
	keep[0], keep[1] = 0, 2
	same(t, d, s)
	d.Crash(keep)
	same(t, d, s)
	must(t, d.Append("a", "xyz"), api.OK)
	s.append("a", "xyz")
	same(t, d, s)
}

func place(s string) uintptr { return uintptr(unsafe.Pointer(unsafe.StringData(s))) }

func shares(a, b string) bool {
	return place(a) < place(b)+uintptr(len(b)) && place(b) < place(a)+uintptr(len(a))
}

func sharesBytes(a, b []byte) bool {
	begins := func(s []byte) uintptr { return uintptr(unsafe.Pointer(unsafe.SliceData(s))) }
	return begins(a) < begins(b)+uintptr(cap(b)) && begins(b) < begins(a)+uintptr(cap(a))
}

func TestWhatIsHandedInIsNotKept(t *testing.T) { // R5
	// Texts made over bytes that change later: what was kept of them would too.
	raw := bytes.Repeat([]byte("name-and-data-and-more."), 4)
	text := unsafe.String(unsafe.SliceData(raw), len(raw))
	d := New(1000)
	must(t, d.Append(text[:4], text[5:20]), api.OK)
	must(t, d.Append(text[:4], text[20:40]), api.OK)
	must(t, d.Append(text[5:8], text[9:13]), api.OK)
	must(t, d.Rename(text[5:8], text[9:13]), api.OK)
	must(t, d.Append("x", "1"), api.OK)
	must(t, d.Rename("x", text[18:22]), api.OK)
	s := &slow{room: 1000}
	for _, f := range []slowFile{
		{strings.Clone(text[:4]), strings.Clone(text[5:40]), 0},
		{strings.Clone(text[9:13]), strings.Clone(text[9:13]), 0},
		{strings.Clone(text[18:22]), "1", 0},
	} {
		s.put(f)
	}
	c := d.Copy()
	for i := range raw {
		raw[i] = '#'
	}
	same(t, d, s)
	same(t, c, s)
}

func TestANameOfAFileThatIsThereIsNotKept(t *testing.T) { // R5
	// A map may take a later key's memory in the place of an equal one's.
	raw := []byte("file-to")
	text := unsafe.String(unsafe.SliceData(raw), len(raw))
	d, s := of(t, 100, slowFile{"file", "1", 1}, slowFile{"to", "2", 1}, slowFile{"x", "33", 1})
	must(t, d.Append(text[:4], "4"), api.OK)
	s.append("file", "4")
	must(t, d.Sync(text[:4]), api.OK)
	s.sync("file")
	must(t, d.Rename("x", text[5:]), api.OK)
	s.rename("x", "to")
	must(t, d.Rename(text[:4], text[:4]), api.OK)
	clear(raw)
	same(t, d, s)
}

func TestAnswersAreNewMemory(t *testing.T) { // R5
	name := strings.Repeat("name", 9)
	d := New(1000)
	must(t, d.Append(name, "some data that is long enough"), api.OK)
	must(t, d.Append(name+"2", "other"), api.OK)
	one, _ := d.Read(name)
	two, _ := d.Read(name)
	f := d.files[name]
	if shares(one, two) || shares(one, unsafe.String(unsafe.SliceData(f.data), len(f.data))) {
		t.Error("what is read shares")
	}
	l, m := d.List(""), d.List(name)
	if unsafe.SliceData(l) == unsafe.SliceData(m) {
		t.Error("two lists share")
	}
	for i := range l {
		if shares(l[i], m[i]) || shares(l[i], name) {
			t.Error("names of two lists share")
		}
		for kept := range d.files {
			if shares(kept, l[i]) {
				t.Error("a name that is told is the disk's own")
			}
		}
	}
	clear(l)
	if got := d.List(""); !slices.Equal(got, []string{name, name + "2"}) {
		t.Errorf("behind a change of what was told: %q", got)
	}
	c := d.Copy()
	for mine, f := range d.files {
		for its, g := range c.files {
			if f == g || shares(mine, its) || sharesBytes(f.data, g.data) {
				t.Error("a copy shares")
			}
		}
	}
}

func TestWhatWasReadStays(t *testing.T) { // R5
	d, _ := of(t, 100, slowFile{"f", "12345678", 0})
	read, _ := d.Read("f")
	was := strings.Clone(read)
	// A crash leaves room behind what stays, which is written to again.
	d.Crash([]int{3})
	must(t, d.Append("f", "ABCDE"), api.OK)
	if read != was {
		t.Errorf("what was read is now %q", read)
	}
	mustRead(t, d, "f", "123ABCDE", api.OK)
}

func TestManyAppendsAndFilesInTime(t *testing.T) { // R1
	d := New(math.MaxInt)
	const count = 1 << 20
	for range count {
		if e := d.Append("f", "0123456789abcdef"); e != api.OK {
			t.Fatal(e)
		}
	}
	if got, e := d.Read("f"); e != api.OK || len(got) != 16*count || got != strings.Repeat("0123456789abcdef", count) {
		t.Fatalf("%d bytes, %d", len(got), e)
	}
	if d.Free() != math.MaxInt-16*count {
		t.Errorf("%d free", d.Free())
	}
	many := New(1 << 20)
	for i := range 1 << 14 {
		if e := many.Append(string([]byte{byte(i >> 8), byte(i)}), "xy"); e != api.OK {
			t.Fatal(e)
		}
	}
	many.Crash(slices.Repeat([]int{1}, 1<<13))
	if many.Free() != 1<<20-1<<13 || len(many.List("")) != 1<<14 {
		t.Errorf("%d free, %d files", many.Free(), len(many.List("")))
	}
}

func FuzzDisksDoAsTheWordsSay(f *testing.F) { // P6.1 to P6.6, W8, R1
	f.Add(10, []byte{0, 0, 1, 5, 0, 3, 0, 0, 2, 4, 0, 6, 1, 9, 1})
	f.Add(0, []byte{0, 0, 1, 0})
	f.Add(-1, []byte("abcdefghijklmnop"))
	f.Fuzz(func(t *testing.T, room int, told []byte) {
		next := func(n int) int {
			if len(told) == 0 {
				return 0
			}
			v := int(told[0]) % n
			told = told[1:]
			return v
		}
		d, s := New(room), slowNew(room)
		var copied *Disk
		var was *slow
		for len(told) > 0 {
			if copied == nil || next(8) == 0 {
				copied, was = d.Copy(), s.copy()
			}
			doAny(t, d, s, next)
			same(t, d, s)
			same(t, copied, was)
		}
	})
}
