package lsm

import (
	"fmt"
	"maps"
	"math"
	"math/rand"
	"regexp"
	"slices"
	"strconv"
	"strings"
	"testing"
	"unsafe"

	"acreage/api"
	"acreage/cells"
	"acreage/disk"
	"acreage/keys"
	"acreage/manifest"
	"acreage/seal"
	"acreage/table"
	"acreage/wal"
)

// cellsOf reads cells, parted by commas: Row, Col and Version of each, then
// "gone" or its Value; - is an empty text.
func cellsOf(text string) []api.Cell {
	var l []api.Cell
	for one := range strings.SplitSeq(text, ",") {
		w := strings.Fields(one)
		if len(w) == 0 {
			continue
		}
		v, err := strconv.ParseUint(w[2], 10, 64)
		if err != nil {
			panic(err)
		}
		c := api.Cell{Row: strings.Trim(w[0], "-"), Col: strings.Trim(w[1], "-"), Version: v}
		for _, more := range w[3:] {
			if more == "gone" {
				c.Gone = true
			} else {
				c.Value = more
			}
		}
		l = append(l, c)
	}
	return l
}

// textOf writes cells as cellsOf reads them.
func textOf(l []api.Cell) string {
	word := func(s string) string {
		if s == "" {
			return "-"
		}
		return s
	}
	var out []string
	for _, c := range l {
		one := fmt.Sprintf("%s %s %d", word(c.Row), word(c.Col), c.Version)
		if c.Gone {
			one += " gone"
		}
		if c.Value != "" {
			one += " " + c.Value
		}
		out = append(out, one)
	}
	return strings.Join(out, ", ")
}

func tableName(prefix string, id uint64) string { return fmt.Sprintf("%st%016d", prefix, id) }

func logName(prefix string, n uint64) string { return fmt.Sprintf("%sw%016d", prefix, n) }

func must(t *testing.T, got, want api.Errno) {
	t.Helper()
	if got != want {
		t.Fatalf("answered %d, not %d", got, want)
	}
}

// short keeps what a failure tells readable.
func short(x any) string {
	s := fmt.Sprintf("%q", fmt.Sprint(x))
	return s[:min(len(s), 400)]
}

// put has a file of the disk be just that, synced.
func put(t *testing.T, d *disk.Disk, name, data string) {
	t.Helper()
	d.Remove(name)
	must(t, d.Append(name, data), api.OK)
	must(t, d.Sync(name), api.OK)
}

func tableOf(t *testing.T, text string) string {
	t.Helper()
	data, e := table.Write(cellsOf(text), 1024)
	must(t, e, api.OK)
	return data
}

// laid is a disk with a store's files: the levels parted by |, their files by
// semicolons, of each its Id, a colon, and its cells. Next is one more than the
// greatest Id, Log is 1.
func laid(t *testing.T, room int, prefix, text string) *disk.Disk {
	t.Helper()
	d := disk.New(room)
	state := api.Files{Next: 1, Log: 1}
	if text != "" {
		for level := range strings.SplitSeq(text, "|") {
			state.Levels = append(state.Levels, nil)
			for one := range strings.SplitSeq(level, ";") {
				if strings.TrimSpace(one) == "" {
					continue
				}
				id, list, _ := strings.Cut(one, ":")
				l := cellsOf(list)
				n, err := strconv.ParseUint(strings.TrimSpace(id), 10, 64)
				if err != nil {
					t.Fatal(err)
				}
				put(t, d, tableName(prefix, n), tableOf(t, list))
				last := len(state.Levels) - 1
				state.Levels[last] = append(state.Levels[last], api.File{Id: n, Low: l[0].Row, High: l[len(l)-1].Row, Cells: len(l)})
				state.Next = max(state.Next, n+1)
			}
		}
	}
	must(t, manifest.Save(d, prefix+"m", state), api.OK)
	return d
}

// told writes what a disk has of a store's files as laid reads it, and has them
// be as the state says, and no others.
func told(t *testing.T, d *disk.Disk, prefix string) string {
	t.Helper()
	state, e := manifest.Load(d, prefix+"m")
	if e == api.ErrNone {
		return ""
	}
	must(t, e, api.OK)
	count := 0
	var levels []string
	for _, files := range state.Levels {
		var list []string
		for _, f := range files {
			l := read(t, d, tableName(prefix, f.Id))
			if len(l) != f.Cells || l[0].Row != f.Low || l[len(l)-1].Row != f.High {
				t.Fatalf("the file %v has %s", f, short(textOf(l)))
			}
			list = append(list, fmt.Sprintf("%d: %s", f.Id, textOf(l)))
			count++
		}
		levels = append(levels, strings.Join(list, "; "))
	}
	if l := d.List(prefix + "t"); len(l) != count {
		t.Fatalf("%d files, and the state has %d", len(l), count)
	}
	return strings.Join(levels, " | ")
}

// read is what a table's file has.
func read(t *testing.T, d *disk.Disk, name string) []api.Cell {
	t.Helper()
	data, e := d.Read(name)
	must(t, e, api.OK)
	f, e := table.Open(data)
	must(t, e, api.OK)
	return slices.Collect(f.All())
}

// slow is a store as the chapter words it: of its files it keeps nothing, and
// goes through all of their cells at each call. Each step that it does to the
// disk is counted.
type slow struct {
	t      *testing.T
	d      *disk.Disk
	prefix string
	flush  int
	saved  api.Files // what the disk has of the state
	state  api.Files
	mem    map[version]api.Cell
	broken bool
	left   int // steps that may be done yet; below 0: any
}

// version is what tells the cells of a memtable apart.
type version struct {
	row, col string
	number   uint64
}

// What ends a slow call: no step is left, the disk or the log met an error, or
// what is to be done can't be.
type (
	cutOff  struct{}
	met     api.Errno
	refused api.Errno
)

const noStepLeft api.Errno = -1

func copied(s api.Files) api.Files {
	s.Levels = slices.Clone(s.Levels)
	for i, l := range s.Levels {
		s.Levels[i] = slices.Clone(l)
	}
	return s
}

func (s *slow) do(step func() api.Errno) {
	if s.left == 0 {
		panic(cutOff{})
	}
	s.left--
	if e := step(); e != api.OK {
		panic(met(e))
	}
}

// run does a call, and tells what it answers.
func (s *slow) run(call func()) (e api.Errno) {
	if s.broken {
		return api.ErrNil
	}
	defer func() {
		switch x := recover().(type) {
		case nil:
		case cutOff:
			e = noStepLeft
		case met:
			s.broken = true
			e = api.Errno(x)
		case refused:
			for id := s.saved.Next; id < s.state.Next; id++ {
				s.d.Remove(tableName(s.prefix, id))
			}
			s.state = copied(s.saved)
			e = api.Errno(x)
		default:
			panic(x)
		}
	}()
	call()
	return api.OK
}

func slowOpen(t *testing.T, d *disk.Disk, prefix string, flush int) (*slow, api.Errno) {
	if d == nil || d.Copy() == nil {
		return nil, api.ErrNil
	}
	if len(prefix) > 40 || flush < 1 || flush > 1024 {
		return nil, api.ErrArg
	}
	s := &slow{t: t, d: d, prefix: prefix, flush: flush, mem: map[version]api.Cell{}, left: -1}
	state, e := manifest.Load(d, prefix+"m")
	switch e {
	case api.ErrForm:
		return nil, e
	case api.ErrNone:
		state = api.Files{Next: 1, Log: 1}
	}
	s.saved, s.state = copied(state), copied(state)
	w, e := wal.Open(d, prefix+"w", 4096)
	if e != api.OK {
		return nil, e
	}
	mine := map[string]bool{}
	for _, f := range s.files() {
		mine[tableName(prefix, f.Id)] = true
	}
	sixteen := regexp.MustCompile(`^[0-9]{16}$`)
	for _, name := range d.List("") {
		tail, ok := strings.CutPrefix(name, prefix+"t")
		if ok && sixteen.MatchString(tail) && !mine[name] {
			d.Remove(name)
		}
	}
	for _, f := range s.files() {
		data, e := d.Read(tableName(prefix, f.Id))
		if e != api.OK {
			return nil, api.ErrForm
		}
		x, e := table.Open(data)
		if e != api.OK {
			return nil, api.ErrForm
		}
		l := slices.Collect(x.All())
		if len(l) != f.Cells || l[0].Row != f.Low || l[len(l)-1].Row != f.High {
			return nil, api.ErrForm
		}
	}
	for n := w.First(); n < w.Next(); n++ {
		if n < state.Log {
			continue
		}
		record, _ := w.Get(n)
		l, e := cells.Decode(record)
		if e != api.OK {
			return nil, api.ErrForm
		}
		s.put(l)
	}
	return s, api.OK
}

func (s *slow) files() []api.File {
	var l []api.File
	for _, files := range s.state.Levels {
		l = append(l, files...)
	}
	return l
}

func (s *slow) put(l []api.Cell) {
	for _, c := range l {
		s.mem[version{c.Row, c.Col, c.Version}] = c
	}
}

type place struct{ row, col string }

// newest takes of each place the greatest Version, of several the first one.
func newest(l []api.Cell) []api.Cell {
	best := map[place]api.Cell{}
	for _, c := range l {
		if was, is := best[place{c.Row, c.Col}]; !is || c.Version > was.Version {
			best[place{c.Row, c.Col}] = c
		}
	}
	return slices.SortedFunc(maps.Values(best), keys.Cmp)
}

// found is what is found of each place, gone or not.
func (s *slow) found() []api.Cell {
	l := slices.Collect(maps.Values(s.mem))
	for _, f := range s.files() {
		l = append(l, read(s.t, s.d, tableName(s.prefix, f.Id))...)
	}
	return newest(l)
}

func (s *slow) scan(r api.Range) ([]api.Cell, api.Errno) {
	var l []api.Cell
	e := s.run(func() {
		for _, c := range s.found() {
			if !c.Gone && r.Low <= c.Row && (r.High == "" || c.Row < r.High) {
				l = append(l, c)
			}
		}
	})
	return l, e
}

type logFile struct {
	name    string
	number  uint64
	size    int
	records []string
}

func (s *slow) logFiles() []logFile {
	var l []logFile
	for _, name := range s.d.List(s.prefix + "w") {
		n, err := strconv.ParseUint(name[len(s.prefix)+1:], 10, 64)
		if err != nil || name != logName(s.prefix, n) {
			continue
		}
		data, _ := s.d.Read(name)
		records, _ := seal.Scan(data)
		l = append(l, logFile{name, n, len(data), records})
	}
	return l
}

func (s *slow) logNext() uint64 {
	l := s.logFiles()
	if len(l) == 0 {
		return 1
	}
	last := l[len(l)-1]
	return last.number + uint64(len(last.records))
}

func (s *slow) logSync() {
	if l := s.logFiles(); len(l) > 0 {
		s.do(func() api.Errno { return s.d.Sync(l[len(l)-1].name) })
	}
}

func (s *slow) logAppend(record string) {
	frame, _ := seal.Frame(record)
	l := s.logFiles()
	name := logName(s.prefix, s.logNext())
	if len(l) > 0 && l[len(l)-1].size < 4096 {
		name = l[len(l)-1].name
	} else {
		if s.logNext() > 1e15 {
			panic(met(api.ErrFull))
		}
		s.logSync()
	}
	s.do(func() api.Errno { return s.d.Append(name, frame) })
}

func (s *slow) logDrop(to uint64) {
	for l := s.logFiles(); len(l) > 1 && l[0].number+uint64(len(l[0].records)) <= to; l = l[1:] {
		s.do(func() api.Errno { return s.d.Remove(l[0].name) })
	}
}

func (s *slow) lay(l []api.Cell) api.File {
	data, e := table.Write(l, 1024)
	if e != api.OK {
		panic(refused(e))
	}
	f := api.File{Id: s.state.Next, Low: l[0].Row, High: l[len(l)-1].Row, Cells: len(l)}
	s.do(func() api.Errno { return s.d.Append(tableName(s.prefix, f.Id), data) })
	s.do(func() api.Errno { return s.d.Sync(tableName(s.prefix, f.Id)) })
	s.state.Next++
	return f
}

func (s *slow) save() {
	data, e := manifest.Encode(s.state)
	if e != api.OK {
		panic(refused(e))
	}
	name := s.prefix + "m"
	s.do(func() api.Errno { s.d.Remove(name + ".new"); return api.OK })
	s.do(func() api.Errno { return s.d.Append(name+".new", data) })
	s.do(func() api.Errno { return s.d.Sync(name + ".new") })
	s.do(func() api.Errno { return s.d.Rename(name+".new", name) })
	s.saved = copied(s.state)
}

func (s *slow) remove(files []api.File) {
	for _, f := range slices.SortedFunc(slices.Values(files), func(a, b api.File) int { return int(a.Id) - int(b.Id) }) {
		s.do(func() api.Errno { return s.d.Remove(tableName(s.prefix, f.Id)) })
	}
}

func (s *slow) sync() api.Errno { return s.run(s.logSync) }

func (s *slow) apply(l []api.Cell) api.Errno {
	return s.run(func() {
		record, e := cells.Encode(l)
		if e != api.OK {
			panic(refused(e))
		}
		if len(l) == 0 {
			return
		}
		s.logAppend(record)
		s.put(l)
		if len(s.mem) >= s.flush {
			s.flushAll()
			s.compactOne()
		}
	})
}

func (s *slow) flushed() api.Errno { return s.run(s.flushAll) }

func (s *slow) flushAll() {
	if len(s.mem) == 0 {
		return
	}
	s.logSync()
	f := s.lay(newest(slices.Collect(maps.Values(s.mem))))
	if len(s.state.Levels) == 0 {
		s.state.Levels = [][]api.File{nil}
	}
	s.state.Levels[0] = append([]api.File{f}, s.state.Levels[0]...)
	s.state.Log = s.logNext()
	s.save()
	clear(s.mem)
	s.logDrop(s.state.Log)
}

func (s *slow) replace(l []api.Cell) api.Errno {
	return s.run(func() {
		for _, c := range l {
			if keys.Cell(c) != api.OK {
				panic(refused(api.ErrArg))
			}
		}
		were := s.files()
		s.logSync()
		var levels [][]api.File
		if len(l) > 0 {
			levels = [][]api.File{{s.lay(newest(l))}}
		}
		s.state.Levels = levels
		s.state.Log = s.logNext()
		s.save()
		clear(s.mem)
		s.logDrop(s.state.Log)
		s.remove(were)
	})
}

func (s *slow) compact() (did bool, e api.Errno) {
	e = s.run(func() { did = s.compactOne() })
	if e != api.OK {
		did = false
	}
	return did, e
}

func (s *slow) compactOne() bool {
	level := func(n int) []api.File {
		if n < len(s.state.Levels) {
			return slices.Clone(s.state.Levels[n])
		}
		return nil
	}
	n := 0
	if len(level(0)) < 4 {
		for n = 1; n <= 5; n++ {
			if len(level(n)) > int(math.Pow(4, float64(n))) {
				break
			}
		}
		if n > 5 {
			return false
		}
	}
	gone := level(n)
	if n > 0 {
		gone = gone[:1]
	}
	low, high := gone[0].Low, gone[0].High
	for _, f := range gone {
		low, high = min(low, f.Low), max(high, f.High)
	}
	upper := len(gone)
	for _, f := range level(n + 1) {
		if f.Low <= high && f.High >= low {
			gone = append(gone, f)
		}
	}
	var all, left []api.Cell
	for _, f := range gone {
		all = append(all, read(s.t, s.d, tableName(s.prefix, f.Id))...)
	}
	for _, c := range newest(all) {
		deeper := false
		for m := n + 2; m < 7; m++ {
			for _, f := range level(m) {
				deeper = deeper || f.Low <= c.Row && f.High >= c.Row
			}
		}
		if !c.Gone || deeper {
			left = append(left, c)
		}
	}
	var fresh []api.File
	for len(left) > 0 {
		k := 0
		for k < len(left) && (k < 4*s.flush || left[k].Row == left[k-1].Row) {
			k++
		}
		fresh = append(fresh, s.lay(left[:k]))
		left = left[k:]
	}
	for len(s.state.Levels) < n+2 {
		s.state.Levels = append(s.state.Levels, nil)
	}
	s.state.Levels[n] = level(n)[upper:]
	for _, f := range level(n + 1) {
		if !slices.Contains(gone, f) {
			fresh = append(fresh, f)
		}
	}
	slices.SortFunc(fresh, func(a, b api.File) int { return strings.Compare(a.Low, b.Low) })
	s.state.Levels[n+1] = fresh
	for len(s.state.Levels) > 0 && len(s.state.Levels[len(s.state.Levels)-1]) == 0 {
		s.state.Levels = s.state.Levels[:len(s.state.Levels)-1]
	}
	s.save()
	s.remove(gone)
	return true
}

// sameDisk holds two disks against one another, by all that they tell.
func sameDisk(t *testing.T, got, want *disk.Disk) {
	t.Helper()
	if l, m := got.List(""), want.List(""); !slices.Equal(l, m) {
		t.Fatalf("the files are %q, not %q", l, m)
	}
	for _, name := range want.List("") {
		a, _ := got.Read(name)
		b, _ := want.Read(name)
		if a != b {
			t.Fatalf("%q has %s, not %s", name, short(a), short(b))
		}
		if got.Synced(name) != want.Synced(name) {
			t.Fatalf("of %q %d bytes are synced, not %d", name, got.Synced(name), want.Synced(name))
		}
	}
	if got.Free() != want.Free() {
		t.Fatalf("%d are free, not %d", got.Free(), want.Free())
	}
}

// isBroken has each call of a store answer ErrNil, and nothing else.
func isBroken(t *testing.T, s *Store) {
	t.Helper()
	one := cellsOf("a x 1")
	for range 2 {
		for _, l := range [][]api.Cell{nil, {}, one, {{}}} {
			must(t, s.Apply(l), api.ErrNil)
			must(t, s.Replace(l), api.ErrNil)
		}
		must(t, s.Sync(), api.ErrNil)
		must(t, s.Flush(), api.ErrNil)
		if did, e := s.Compact(); did || e != api.ErrNil {
			t.Fatalf("Compact = %v, %d", did, e)
		}
		if c, is, e := s.Get("a", "x"); c != (api.Cell{}) || is || e != api.ErrNil {
			t.Fatalf("Get = %v, %v, %d", c, is, e)
		}
		if l, e := s.Scan(api.Range{}); len(l) > 0 || e != api.ErrNil {
			t.Fatalf("Scan = %v, %d", l, e)
		}
		if l := s.Levels(); len(l) > 0 {
			t.Fatalf("Levels = %v", l)
		}
	}
}

// pair is a store beside one as the words say, each on a disk of its own.
type pair struct {
	s    *Store
	d    *disk.Disk
	slow *slow
}

func openBoth(t *testing.T, d *disk.Disk, prefix string, flush int) pair {
	t.Helper()
	beside := d.Copy()
	words, want := slowOpen(t, beside, prefix, flush)
	s, e := Open(d, prefix, flush)
	must(t, e, want)
	if (s != nil) != (e == api.OK) {
		t.Fatalf("a store %v beside %d", s != nil, e)
	}
	if e != api.OK {
		if beside != nil {
			sameDisk(t, d, beside)
		}
		return pair{}
	}
	p := pair{s, d, words}
	p.same(t)
	return p
}

// same holds a store and its disk against the words.
func (p pair) same(t *testing.T) {
	t.Helper()
	sameDisk(t, p.d, p.slow.d)
	if p.slow.broken {
		isBroken(t, p.s)
		sameDisk(t, p.d, p.slow.d)
		return
	}
	var counts []int
	for _, files := range p.slow.state.Levels {
		counts = append(counts, len(files))
	}
	if l := p.s.Levels(); !slices.Equal(l, counts) {
		t.Fatalf("Levels = %v, not %v", l, counts)
	}
	if n := len(p.s.tables); n != len(p.slow.files()) {
		t.Fatalf("%d tables are kept of %v files", n, counts)
	}
	p.scan(t, api.Range{})
	for _, c := range append(p.slow.found(), api.Cell{Row: "nobody", Gone: true}) {
		got, is, e := p.s.Get(c.Row, c.Col)
		if c.Gone {
			c = api.Cell{}
		}
		if got != c || is != (c.Version > 0) || e != api.OK {
			t.Fatalf("Get = %s, %v, %d, not %s", short(got), is, e, short(c))
		}
	}
	sameDisk(t, p.d, p.slow.d) // asking changes nothing
}

func (p pair) scan(t *testing.T, r api.Range) {
	t.Helper()
	want, err := p.slow.scan(r)
	got, e := p.s.Scan(r)
	must(t, e, err)
	if !slices.Equal(got, want) {
		t.Fatalf("Scan(%q) = %s, not %s", r, short(textOf(got)), short(textOf(want)))
	}
}

func (p pair) applyList(t *testing.T, l []api.Cell) api.Errno {
	t.Helper()
	e := p.s.Apply(slices.Clone(l))
	must(t, e, p.slow.apply(l))
	p.same(t)
	return e
}

// apply is of batches that are taken.
func (p pair) apply(t *testing.T, batches ...string) {
	t.Helper()
	for _, text := range batches {
		must(t, p.applyList(t, cellsOf(text)), api.OK)
	}
}

func (p pair) sync(t *testing.T) api.Errno {
	t.Helper()
	e := p.s.Sync()
	must(t, e, p.slow.sync())
	p.same(t)
	return e
}

func (p pair) flush(t *testing.T) api.Errno {
	t.Helper()
	e := p.s.Flush()
	must(t, e, p.slow.flushed())
	p.same(t)
	return e
}

func (p pair) compact(t *testing.T) (bool, api.Errno) {
	t.Helper()
	did, e := p.s.Compact()
	want, err := p.slow.compact()
	must(t, e, err)
	if did != want {
		t.Fatalf("Compact = %v, not %v", did, want)
	}
	p.same(t)
	return did, e
}

func (p pair) replace(t *testing.T, l []api.Cell) api.Errno {
	t.Helper()
	e := p.s.Replace(slices.Clone(l))
	must(t, e, p.slow.replace(l))
	p.same(t)
	return e
}

func (p pair) mustTell(t *testing.T, want string) {
	t.Helper()
	l, e := p.s.Scan(api.Range{})
	must(t, e, api.OK)
	if got := textOf(l); got != want {
		t.Fatalf("there is %s, not %s", short(got), short(want))
	}
}

func (p pair) mustLie(t *testing.T, want string) {
	t.Helper()
	if got := told(t, p.d, p.slow.prefix); got != want {
		t.Fatalf("the files are %s, not %s", short(got), short(want))
	}
}

// mustNotGet has there be no cell of that place, though the store is one.
func mustNotGet(t *testing.T, s *Store, row, col string) {
	t.Helper()
	if c, is, e := s.Get(row, col); c != (api.Cell{}) || is || e != api.OK {
		t.Fatalf("Get(%q, %q) = %v, %v, %d", row, col, c, is, e)
	}
}

func mustGet(t *testing.T, s *Store, want api.Cell) {
	t.Helper()
	if c, is, e := s.Get(want.Row, want.Col); c != want || !is || e != api.OK {
		t.Fatalf("Get(%q, %q) = %s, %v, %d, not %s", want.Row, want.Col, short(c), is, e, short(want))
	}
}

func mustOpen(t *testing.T, d *disk.Disk, prefix string, flush int) *Store {
	t.Helper()
	s, e := Open(d, prefix, flush)
	must(t, e, api.OK)
	if s == nil {
		t.Fatal("no store")
	}
	return s
}

func mustHave(t *testing.T, s *Store, want ...int) {
	t.Helper()
	if l := s.Levels(); !slices.Equal(l, want) {
		t.Fatalf("Levels = %v, not %v", l, want)
	}
}

func TestTheChaptersExamples(t *testing.T) { // P14.1 to P14.6, and the third one of the whole
	p := openBoth(t, disk.New(1<<16), "p", 3)
	p.apply(t, "a x 1")
	mustGet(t, p.s, cellsOf("a x 1")[0])
	mustHave(t, p.s)
	p.apply(t, "b x 1, a x 2 gone")
	mustHave(t, p.s, 1)
	p.mustLie(t, "1: a x 2 gone, b x 1")
	mustNotGet(t, p.s, "a", "x")
	p.mustTell(t, "b x 1")
	for v := 3; v <= 7; v += 2 {
		p.apply(t, fmt.Sprintf("a x %d", v), fmt.Sprintf("b x %d, a x %d gone", v, v+1))
	}
	mustHave(t, p.s, 0, 1)
	p.mustLie(t, " | 5: b x 7")
	must(t, p.sync(t), api.OK)
	p.apply(t, "c x 1")
	p.d.Crash(nil)
	p = openBoth(t, p.d, "p", 3)
	p.mustTell(t, "b x 7")
	must(t, p.replace(t, cellsOf("k x 5")), api.OK)
	p.mustTell(t, "k x 5")
	mustHave(t, p.s, 1)
}

func TestWhichStoresAreOpened(t *testing.T) { // P14.1, R2, R3
	long := strings.Repeat("p", 40)
	var none *disk.Disk
	for _, c := range []struct {
		d      *disk.Disk
		prefix string
		flush  int
		want   api.Errno
	}{
		{disk.New(100), "p", 1, api.OK}, {disk.New(0), "", 1, api.OK}, {disk.New(100), long, 1024, api.OK}, {disk.New(100), strings.Repeat("\xff", 40), 2, api.OK},
		{disk.New(100), long + "p", 1, api.ErrArg}, {disk.New(100), strings.Repeat("é", 21), 1, api.ErrArg}, {disk.New(100), strings.Repeat("p", 4096), 1, api.ErrArg},
		{disk.New(100), "p", 0, api.ErrArg}, {disk.New(100), "p", 1025, api.ErrArg}, {disk.New(100), "p", -1, api.ErrArg}, {disk.New(100), "p", math.MinInt, api.ErrArg},
		{disk.New(100), "p", math.MaxInt, api.ErrArg}, {disk.New(100), long + "p", 0, api.ErrArg},
		{nil, "p", 1, api.ErrNil}, {none, "p", 1, api.ErrNil}, {new(disk.Disk), "p", 1, api.ErrNil}, {&disk.Disk{}, "", 1024, api.ErrNil},
		// Of several faults the first one counts: the disk ahead of the rest.
		{nil, long + "p", 0, api.ErrNil}, {new(disk.Disk), long + "p", 1, api.ErrNil}, {new(disk.Disk), "p", 0, api.ErrNil},
	} {
		s, e := Open(c.d, c.prefix, c.flush)
		must(t, e, c.want)
		if (s != nil) != (e == api.OK) {
			t.Fatalf("a store %v beside %d", s != nil, e)
		}
		if e == api.OK {
			mustHave(t, s)
			if l := c.d.List(""); len(l) > 0 {
				t.Fatalf("%q is there", l)
			}
		}
	}
}

func TestAStoreThatIsRefusedTouchesNothing(t *testing.T) { // P14.1, R2
	d := laid(t, 10000, "p", "1: a x 1")
	put(t, d, logName("p", 1), "torn")
	put(t, d, tableName("p", 9), "stray")
	put(t, d, "pwtmp", "spare")
	long := strings.Repeat("p", 41)
	for _, name := range []string{long + "m", tableName(long, 1), long + "wtmp", logName(long, 1)} {
		put(t, d, name, "of a longer prefix")
	}
	was := d.Copy()
	for _, flush := range []int{0, -1, 1025} {
		openBoth(t, d, "p", flush)
		sameDisk(t, d, was)
	}
	openBoth(t, d, long, 1)
	sameDisk(t, d, was)
}

func TestStoresOfAllLengthsOfPrefixes(t *testing.T) { // P14.1: each has just the names that the words say
	for _, n := range []int{0, 1, 2, 16, 39, 40} {
		prefix := strings.Repeat("t", n)
		p := openBoth(t, disk.New(1<<16), prefix, 2)
		for v := range 12 {
			p.apply(t, fmt.Sprintf("a x %d, b x %d", v+1, v+1))
		}
		p.apply(t, "c x 1")
		if l := p.d.List(""); !slices.Equal(l, slices.Sorted(slices.Values([]string{prefix + "m", tableName(prefix, 15), logName(prefix, 1)}))) {
			t.Fatalf("%q", l)
		}
		p.d.Crash([]int{-1, -1, -1})
		p = openBoth(t, p.d, prefix, 2)
		p.mustTell(t, "a x 12, b x 12, c x 1")
	}
}

func TestTheStateIsLoadedFirst(t *testing.T) { // P14.1
	good, e := manifest.Encode(api.Files{Next: 1, Log: 1})
	must(t, e, api.OK)
	for _, data := range []string{"", "x", good[:8], good + "\x00", good + good, strings.ToUpper(good[:10]) + good[10:] + "x", strings.Repeat("\x00", 11)} {
		d := disk.New(10000)
		put(t, d, "pm", data)
		put(t, d, logName("p", 1), "torn")
		put(t, d, "pwtmp", "spare")
		put(t, d, tableName("p", 1), "stray")
		was := d.Copy()
		if s, e := Open(d, "p", 1); s != nil || e != api.ErrForm {
			t.Fatalf("%q: %v, %d", data, s != nil, e)
		}
		sameDisk(t, d, was)
		openBoth(t, d, "p", 1)
	}
	// Each byte of a state counts.
	for i := range len(good) {
		d := disk.New(1000)
		put(t, d, "pm", good[:i]+string([]byte{good[i] ^ 0x10})+good[i+1:])
		if _, e := Open(d, "p", 1); e != api.ErrForm {
			t.Fatalf("the byte %d: %d", i, e)
		}
	}
	// What lies under its spare name is no state.
	d := laid(t, 10000, "p", "")
	put(t, d, "pm.new", "left")
	openBoth(t, d, "p", 1)
	if data, _ := d.Read("pm.new"); data != "left" {
		t.Fatalf("%q", data)
	}
}

func TestTheLogIsOpenedThen(t *testing.T) { // P14.1
	frame, _ := seal.Frame(record(t, "a x 1"))
	d := disk.New(len(frame) + 4 + 5)
	put(t, d, logName("p", 1), frame+"torn")
	put(t, d, tableName("p", 1), "stray")
	was := d.Copy()
	if s, e := Open(d, "p", 1); s != nil || e != api.ErrFull {
		t.Fatalf("%v, %d", s != nil, e)
	}
	sameDisk(t, d, was) // no room to write the log anew: strays are there yet
	must(t, d.Remove(tableName("p", 1)), api.OK)
	must(t, d.Append("other", ""), api.OK)
	if _, e := Open(d, "p", 1); e != api.ErrFull {
		t.Fatal(e)
	}
	// With room it is opened, and what is torn is gone.
	more := disk.New(1000)
	put(t, more, logName("p", 1), frame+"torn")
	put(t, more, tableName("p", 1), "stray")
	p := openBoth(t, more, "p", 10)
	p.mustTell(t, "a x 1")
	if l := more.List(""); !slices.Equal(l, []string{logName("p", 1)}) {
		t.Fatalf("%q", l)
	}
}

func record(t *testing.T, text string) string {
	t.Helper()
	s, e := cells.Encode(cellsOf(text))
	must(t, e, api.OK)
	return s
}

func TestStraysAreRemoved(t *testing.T) { // P14.1
	strays := []string{tableName("p", 2), tableName("p", 5), "pt0000000000000000", "pt9999999999999999", "pt1099511627776000"}
	others := []string{
		"pt000000000000001", "pt00000000000000001", "pt00000000000000003", "pt", "pt1", "p0000000000000001", "t0000000000000005", "ppt0000000000000005", "qt0000000000000005", "Pt0000000000000005", "pT0000000000000005",
		"pt000000000000000a", "pt+000000000000005", "pt-000000000000005", "pt 000000000000005", "pt0_00000000000005", "pt0x00000000000005", "pt000000000000005\n", "pt0000000000000\xd9\xa1", "pt0000000000000005.new", "other",
	}
	for _, text := range []string{"1: a x 1; 4: b x 1 | 3: c x 1", "1: a x 1"} {
		d := laid(t, 100000, "p", text)
		left := d.List("")
		for _, name := range slices.Concat(strays, others) {
			must(t, d.Append(name, "stray"), api.OK)
		}
		p := openBoth(t, d, "p", 10)
		left = slices.Sorted(slices.Values(append(left, others...)))
		if l := d.List(""); !slices.Equal(l, left) {
			t.Fatalf("%q, not %q", l, left)
		}
		p.mustLieBeside(t, text, others)
	}
	// Without a state all of them are.
	d := disk.New(1000)
	put(t, d, tableName("p", 1), tableOf(t, "a x 1"))
	p := openBoth(t, d, "p", 10)
	p.mustTell(t, "")
	if l := d.List(""); len(l) > 0 {
		t.Fatalf("%q", l)
	}
	// They are gone too where a file of the state is none, as that is looked for behind it.
	d = laid(t, 10000, "p", "1: a x 1")
	must(t, d.Remove(tableName("p", 1)), api.OK)
	put(t, d, tableName("p", 2), "stray")
	put(t, d, logName("p", 1), "torn")
	if _, e := Open(d, "p", 1); e != api.ErrForm {
		t.Fatal(e)
	}
	if data, _ := d.Read(logName("p", 1)); data != "" || len(d.List("pt")) > 0 {
		t.Fatalf("%q, %q", data, d.List("pt"))
	}
}

// mustLieBeside is mustLie where others' names begin as the store's do.
func (p pair) mustLieBeside(t *testing.T, want string, others []string) {
	t.Helper()
	d := p.d.Copy()
	for _, name := range others {
		d.Remove(name)
	}
	if got := told(t, d, "p"); got != want {
		t.Fatalf("%s, not %s", got, want)
	}
}

func TestAFileOfTheStateThatIsNotAsItSays(t *testing.T) { // P14.1
	const text = "3: a x 1, b x 1, c x 1; 2: a x 1 | 1: b x 1, d x 1"
	good := tableOf(t, "a x 1, b x 1, c x 1")
	turned := func(at int) string { return good[:at] + string([]byte{good[at] ^ 1}) + good[at+1:] }
	for what, data := range map[string]string{
		"empty": "", "torn": good[:len(good)-1], "more": good + "\x00", "twice": good + good, "turned at its beginning": turned(0), "turned in its middle": turned(len(good) / 2), "turned at its end": turned(len(good) - 1),
		"no cells": tableOf(t, ""), "fewer cells": tableOf(t, "a x 1, c x 1"), "more cells": tableOf(t, "a x 1, b x 1, b y 1, c x 1"),
		"another first row": tableOf(t, "aa x 1, b x 1, c x 1"), "another last row": tableOf(t, "a x 1, b x 1, cc x 1"), "a greater last row": tableOf(t, "a x 1, b x 1, z x 1"), "no first row": tableOf(t, "- x 1, b x 1, c x 1"),
	} {
		d := laid(t, 100000, "p", text)
		put(t, d, tableName("p", 3), data)
		openBoth(t, d, "p", 1)
		if s, e := Open(d, "p", 1); s != nil || e != api.ErrForm {
			t.Errorf("%s: %v, %d", what, s != nil, e)
		}
	}
	for _, id := range []uint64{1, 2, 3} {
		d := laid(t, 100000, "p", text)
		must(t, d.Remove(tableName("p", id)), api.OK)
		openBoth(t, d, "p", 1)
		if s, e := Open(d, "p", 1); s != nil || e != api.ErrForm {
			t.Errorf("without the file %d: %v, %d", id, s != nil, e)
		}
		// Nor does another file's table do, that has other rows.
		put(t, d, tableName("p", id), tableOf(t, "x x 1"))
		if s, e := Open(d, "p", 1); s != nil || e != api.ErrForm {
			t.Errorf("with another file %d: %v, %d", id, s != nil, e)
		}
	}
	// A table is one however its cells are parted into blocks, whatever stands between its first and last row, and whichever versions.
	for _, other := range []string{"a x 1, b x 1, c x 1", "a x 9, a y 1, c x 1", "a x 3 gone, a x 2, c y 1 v"} {
		for _, most := range []int{1, 1024, 1 << 15} {
			d := laid(t, 100000, "p", text)
			data, e := table.Write(cellsOf(other), most)
			must(t, e, api.OK)
			put(t, d, tableName("p", 3), data)
			if openBoth(t, d, "p", 1).s == nil {
				t.Errorf("%s is refused", other)
			}
		}
	}
	// What is not synced is there as well, as long as there is power.
	d := laid(t, 100000, "p", text)
	must(t, d.Remove(tableName("p", 3)), api.OK)
	must(t, d.Append(tableName("p", 3), good), api.OK)
	if openBoth(t, d, "p", 1).s == nil {
		t.Error("a file that is not synced is refused")
	}
}

// logged is a disk with a log of these records, in files of so many bytes, and a state of that Log.
func logged(t *testing.T, log uint64, most int, records ...string) *disk.Disk {
	t.Helper()
	d := disk.New(1 << 24)
	w, e := wal.Open(d, "pw", most)
	must(t, e, api.OK)
	for _, r := range records {
		must(t, w.Append(r), api.OK)
	}
	must(t, manifest.Save(d, "pm", api.Files{Next: 1, Log: log}), api.OK)
	return d
}

func TestTheLogsRecordsAreReadFromTheStatesLogOn(t *testing.T) { // P14.1
	records := []string{record(t, "a x 1"), record(t, "b x 1, a x 2 gone"), record(t, ""), record(t, "c x 1 v, c x 1 w")}
	for log, want := range map[uint64]string{1: "b x 1, c x 1 w", 2: "b x 1, c x 1 w", 3: "c x 1 w", 4: "c x 1 w", 5: "", 6: "", 1 << 40: ""} {
		for _, most := range []int{1, 4096} {
			d := logged(t, log, most, records...)
			was := d.Copy()
			p := openBoth(t, d, "p", 1)
			p.mustTell(t, want)
			sameDisk(t, d, was) // nothing is laid, or synced, or dropped
		}
	}
	// One that no list's bytes are is refused, unless it stands ahead of Log.
	for _, bad := range []string{"", "\x01", "\x00\x00", "x", records[0] + "\x00", "\x01\x01a\x01x\x00\x00\x00", "\x01\x01a\x01x\x01\x02\x00", "\x01\x00\x00\x01\x00\x00"} {
		for at := range 4 {
			for log := uint64(1); log <= 5; log++ {
				list := slices.Clone(records)
				list[at] = bad
				d := logged(t, log, 30, list...)
				openBoth(t, d, "p", 1)
				s, e := Open(d, "p", 1)
				if refused := e == api.ErrForm && s == nil; refused != (uint64(at+1) >= log) || !refused && e != api.OK {
					t.Fatalf("%q as the record %d, Log %d: %d", bad, at+1, log, e)
				}
			}
		}
	}
	// A later one takes the place of one of its Row, Col and Version, and of no other one.
	p := openBoth(t, logged(t, 1, 4096, record(t, "a x 2 v, a x 3 w"), record(t, "a x 3 gone, a x 1 u"), record(t, "a x 2 z")), "p", 10)
	p.mustTell(t, "")
	p.apply(t, "a x 3 t")
	p.mustTell(t, "a x 3 t")
}

func TestALogThatBeginsBehindTheStatesLog(t *testing.T) { // P14.1, R1
	for _, first := range []uint64{2, 7, 1 << 40, 999_999_999_999_999} {
		d := disk.New(10000)
		one, _ := seal.Frame(record(t, "a x 1"))
		two, _ := seal.Frame(record(t, "b x 1"))
		put(t, d, logName("p", first), one+two)
		p := openBoth(t, d, "p", 10)
		p.mustTell(t, "a x 1, b x 1")
	}
	// And one that ends ahead of it: its records count for nothing.
	d := logged(t, 9, 4096, record(t, "a x 1"), record(t, "b x 1"))
	p := openBoth(t, d, "p", 10)
	p.mustTell(t, "")
	p.apply(t, "c x 1")
	p.mustTell(t, "c x 1")
}

func TestOpenLaysNothing(t *testing.T) { // P14.1: however many cells the log has
	p := openBoth(t, disk.New(1<<16), "p", 1024)
	p.apply(t, "a x 1", "b x 1, c x 1", "d x 1")
	p = openBoth(t, p.d, "p", 1)
	mustHave(t, p.s)
	// No cells: nothing is done, though the memtable has more than flush.
	must(t, p.applyList(t, nil), api.OK)
	must(t, p.applyList(t, []api.Cell{}), api.OK)
	mustHave(t, p.s)
	p.apply(t, "e x 1")
	mustHave(t, p.s, 1)
	p.mustLie(t, "1: a x 1, b x 1, c x 1, d x 1, e x 1")
}

func TestWhatIsAppliedIsARecord(t *testing.T) { // P14.2
	p := openBoth(t, disk.New(1<<16), "p", 100)
	want := ""
	for _, text := range []string{"b x 1, a x 1", "a x 2 gone, a x 2 v, a x 1", "- x 1, a - 7"} {
		p.apply(t, text)
		frame, _ := seal.Frame(record(t, text))
		want += frame
		if data, e := p.d.Read(logName("p", 1)); data != want || e != api.OK || p.d.Synced(logName("p", 1)) != 0 {
			t.Fatalf("%q, %d", data, e)
		}
	}
	if l := p.d.List(""); len(l) != 1 {
		t.Fatalf("%q", l)
	}
	must(t, p.applyList(t, nil), api.OK)
	must(t, p.sync(t), api.OK)
	if data, _ := p.d.Read(logName("p", 1)); data != want || p.d.Synced(logName("p", 1)) != len(want) {
		t.Fatalf("%q, %d synced", data, p.d.Synced(logName("p", 1)))
	}
	p.mustTell(t, "- x 1, a - 7, a x 2 v, b x 1")
}

func TestWhatIsNotApplied(t *testing.T) { // P14.2, R2
	long := strings.Repeat("v", 1<<16)
	bad := []api.Cell{
		{}, {Row: "a", Col: "x"}, {Row: "a", Col: "x", Version: 1<<40 + 1}, {Row: strings.Repeat("a", 33), Col: "x", Version: 1}, {Row: "a", Col: strings.Repeat("x", 17), Version: 1},
		{Col: "", Version: 1}, {Row: "a", Col: "x", Version: 1, Gone: true, Value: "v"}, {Row: "a", Col: "x", Version: 1, Value: long + "v"},
	}
	var tooLong []api.Cell
	for v := range uint64(16) {
		tooLong = append(tooLong, api.Cell{Row: "a", Col: "x", Version: v + 1, Value: long})
	}
	p := openBoth(t, disk.New(1<<24), "p", 2)
	p.apply(t, "a x 1")
	was := p.d.Copy()
	for _, c := range bad {
		for _, l := range [][]api.Cell{{c}, {cellsOf("b x 1")[0], c}, {c, cellsOf("b x 1")[0]}, append(slices.Clone(tooLong), c)} {
			must(t, p.applyList(t, l), api.ErrArg)
			must(t, p.replace(t, l), api.ErrArg)
		}
	}
	must(t, p.applyList(t, tooLong), api.ErrLong)
	sameDisk(t, p.d, was)
	p.mustTell(t, "a x 1")
	p.apply(t, "b x 1")
	mustHave(t, p.s, 1)
}

func TestWhenTheMemtableIsLaid(t *testing.T) { // P14.2, P14.4
	for _, c := range []struct {
		flush   int
		batches []string
		files   string
	}{
		{1, []string{"a x 1"}, "1: a x 1"},
		{2, []string{"a x 1"}, ""},
		{2, []string{"a x 1", "b x 1"}, "1: a x 1, b x 1"},
		{3, []string{"a x 1, b x 1"}, ""},
		{3, []string{"a x 1, b x 1", "c x 1"}, "1: a x 1, b x 1, c x 1"},
		{3, []string{"c x 1, b x 1, a x 1"}, "1: a x 1, b x 1, c x 1"},
		{3, []string{"a x 1, b x 1, c x 1, d x 1, e x 1"}, "1: a x 1, b x 1, c x 1, d x 1, e x 1"},
		{3, []string{"a x 1, b x 1", "c x 1, d x 1"}, "1: a x 1, b x 1, c x 1, d x 1"},
		// Cells count, not places: each version is one, and the newest is laid.
		{3, []string{"a x 1, a x 2 gone, a x 3 v"}, "1: a x 3 v"},
		{3, []string{"a x 3", "a x 1", "a x 2"}, "1: a x 3"},
		{3, []string{"a x 1", "a x 2", "a x 3 gone"}, "1: a x 3 gone"},
		// One that takes another one's place is not one more.
		{3, []string{"a x 1, a x 1 v, b x 1"}, ""},
		{3, []string{"a x 1, b x 1", "b x 1 w", "a x 1 gone"}, ""},
		{3, []string{"a x 1, b x 1", "b x 1 w", "a x 1 gone", "b x 2"}, "1: a x 1 gone, b x 2"},
		// The newest one stands first.
		{1, []string{"a x 1", "b x 1", "a x 2"}, "3: a x 2; 2: b x 1; 1: a x 1"},
		// And behind four of them one Compact is done.
		{1, []string{"a x 1", "b x 1", "a x 2 gone", "c x 1"}, " | 5: b x 1, c x 1"},
		{1, []string{"a x 1 gone", "b x 1 gone", "a x 2 gone", "c x 1 gone"}, ""},
	} {
		p := openBoth(t, disk.New(1<<16), "p", c.flush)
		p.apply(t, c.batches...)
		p.mustLie(t, c.files)
	}
}

func TestOneCompactIsDoneAtOnce(t *testing.T) { // P14.2
	p := openBoth(t, laid(t, 1<<16, "p", "3: a x 1; 2: a x 1; 1: a x 1 | 4: b x 1; 5: c x 1; 6: d x 1; 7: e x 1; 8: f x 1"), "p", 1)
	p.apply(t, "a x 2")
	mustHave(t, p.s, 0, 6)
	p.apply(t, "a x 3")
	mustHave(t, p.s, 1, 5, 1)
	p.apply(t, "a x 4")
	mustHave(t, p.s, 2, 4, 2)
	p.apply(t, "a x 5")
	mustHave(t, p.s, 3, 4, 2)
}

func TestTheLogIsDroppedAsFarAsItIsLaid(t *testing.T) { // P14.4
	p := openBoth(t, disk.New(1<<20), "p", 1024)
	value := strings.Repeat("v", 1000)
	for v := range 13 {
		p.apply(t, fmt.Sprintf("a x %d %s", v+1, value))
	}
	// Four records have just fewer than 4096 bytes.
	if l := p.d.List("pw"); !slices.Equal(l, []string{logName("p", 1), logName("p", 6), logName("p", 11)}) {
		t.Fatalf("%q", l)
	}
	must(t, p.flush(t), api.OK)
	if l := p.d.List("pw"); !slices.Equal(l, []string{logName("p", 11)}) {
		t.Fatalf("%q", l)
	}
	state, e := manifest.Load(p.d, "pm")
	must(t, e, api.OK)
	if state.Log != 14 || state.Next != 2 {
		t.Fatalf("%v", state)
	}
	// The last file stays, and its records are not read again.
	p = openBoth(t, p.d, "p", 1024)
	p.apply(t, "a x 14 w")
	p.mustTell(t, "a x 14 w")
	must(t, p.replace(t, nil), api.OK)
	p = openBoth(t, p.d, "p", 1024)
	p.mustTell(t, "")
}

func TestFlushOfNothing(t *testing.T) { // P14.4
	d := logged(t, 2, 4096, record(t, "a x 1"))
	p := openBoth(t, d, "p", 4)
	was := d.Copy()
	must(t, p.flush(t), api.OK)
	sameDisk(t, d, was) // not even the log is synced
	p.apply(t, "a x 2")
	must(t, p.flush(t), api.OK)
	was = d.Copy()
	for range 3 {
		must(t, p.flush(t), api.OK)
		sameDisk(t, d, was)
	}
	p.mustLie(t, "1: a x 2")
}

func TestWhereACellIsFound(t *testing.T) { // P14.3
	for _, c := range []struct{ files, mem, want string }{
		{"", "a x 1 v", "a x 1 v"}, {"1: a x 1 v", "", "a x 1 v"}, {"| 1: a x 1 v", "", "a x 1 v"}, {"| | | | | | 1: a x 1 v", "", "a x 1 v"},
		// The newest is gone: in the memtable, in level 0, deeper.
		{"1: a x 1 v", "a x 2 gone", ""}, {"2: a x 2 gone; 1: a x 1 v", "", ""}, {"2: a x 2 gone | 1: a x 1 v", "", ""}, {"| 2: a x 2 gone | 1: a x 1 v", "", ""}, {"| | 2: a x 2 gone", "a x 1 v", ""},
		{"| | 2: a x 2 gone, b x 2 | | 1: a x 1 v, a y 1 w, b x 1 gone", "", "a y 1 w, b x 2"},
		{"", "a x 1 v, a x 2 gone", ""}, {"", "a x 2 gone, a x 1 v", ""}, {"1: a x 2 gone, a x 1 v", "", ""}, {"1: a x 2 w, a x 1 v", "", "a x 2 w"},
		// It counts wherever it lies.
		{"2: a x 1 v | 1: a x 5 w", "", "a x 5 w"}, {"2: a x 5 v | 1: a x 1 w", "", "a x 5 v"}, {"1: a x 5 w", "a x 1 v", "a x 5 w"}, {"2: a x 1; 1: a x 5 w", "", "a x 5 w"}, {"| 2: a x 1 | 1: a x 5 w", "a x 3 gone", "a x 5 w"},
		// Of several of one Version the memtable's, else that of the file that stands first.
		{"1: a x 3 f", "a x 3 m", "a x 3 m"}, {"2: a x 3 f; 1: a x 3 g", "", "a x 3 f"}, {"1: a x 3 f; 2: a x 3 g", "", "a x 3 f"}, {"2: a x 3 f | 1: a x 3 g", "", "a x 3 f"}, {"| 1: a x 3 f | 2: a x 3 g", "", "a x 3 f"},
		{"1: a x 3 f", "a x 3 gone", ""}, {"2: a x 3 gone; 1: a x 3 g", "", ""}, {"2: a x 3 f; 1: a x 3 gone", "", "a x 3 f"}, {"1: a x 3 gone", "a x 3 m", "a x 3 m"}, {"| 2: a x 3 gone | 1: a x 3 g", "", ""},
		{"2: a x 2 f; 1: a x 3 g | 3: a x 3 h", "a x 2 m", "a x 3 g"},
		// Places are each their own.
		{"1: a x 9 gone, a y 1 v", "a z 1, - x 1, - y 3 gone", "- x 1, a y 1 v, a z 1"}, {"2: ab c 1 v | 1: a bc 2 gone", "", "ab c 1 v"}, {"2: - x 1, z - 2 | 1: m x 1", "y - 1 gone", "- x 1, m x 1, z - 2"},
	} {
		p := openBoth(t, laid(t, 1<<16, "p", c.files), "p", 1024)
		p.applyList(t, cellsOf(c.mem))
		if l, _ := p.s.Scan(api.Range{}); textOf(l) != c.want {
			t.Errorf("%s and %s: %s, not %s", c.files, c.mem, textOf(l), c.want)
		}
		for _, at := range slices.Concat(cellsOf(c.mem), cellsOf(c.want)) {
			got, is, e := p.s.Get(at.Row, at.Col)
			i := slices.IndexFunc(cellsOf(c.want), func(w api.Cell) bool { return w.Row == at.Row && w.Col == at.Col })
			if e != api.OK || is != (i >= 0) || is && got != cellsOf(c.want)[i] || !is && got != (api.Cell{}) {
				t.Errorf("%s and %s: Get(%s, %s) = %v, %v, %d", c.files, c.mem, at.Row, at.Col, got, is, e)
			}
		}
	}
}

func TestGetOfOtherPlaces(t *testing.T) { // P14.3, R1
	p := openBoth(t, laid(t, 1<<16, "p", "3: b x 1, d x 1 | 1: b y 1; 2: d y 1"), "p", 100)
	p.apply(t, "c x 1 v")
	for _, row := range []string{"", "a", "b", "bb", "c", "d", "dd", "e", "\xff", strings.Repeat("b", 33), strings.Repeat("b", 1<<16)} {
		for _, col := range []string{"", "w", "x\x00", "xx", "z", strings.Repeat("x", 17), strings.Repeat("x", 1<<16)} {
			mustNotGet(t, p.s, row, col)
		}
	}
	for _, text := range []string{"b x 1", "b y 1", "c x 1 v", "d x 1", "d y 1"} {
		mustGet(t, p.s, cellsOf(text)[0])
	}
}

func TestScansOfRanges(t *testing.T) { // P14.3
	texts := []string{"", "\x00", "a", "a\x00", "aa", "ab", "b", "c", "cc", "\x7f", "\x80", "\xff", "\xff\xff", strings.Repeat("b", 32), strings.Repeat("b", 33), strings.Repeat("\xff", 100)}
	d := laid(t, 1<<16, "p", "4: a x 2, c x 1; 3: aa y 1 gone, b x 1 | 1: a y 1, aa x 1, aa y 1; 2: cc x 1, cc y 1")
	p := openBoth(t, d, "p", 100)
	p.apply(t, "- x 1, ab x 1, c x 2 gone, cc x 2 w")
	p.applyList(t, []api.Cell{{Row: "\xff", Col: "x", Version: 1}, {Row: "\x80", Col: "\xff", Version: 1}, {Row: strings.Repeat("b", 32), Col: "x", Version: 1}})
	for _, low := range texts {
		for _, high := range texts {
			p.scan(t, api.Range{Low: low, High: high})
		}
	}
	for _, c := range []struct{ low, high, want string }{
		{"", "", ""}, {"a", "b", "a x 2, a y 1, aa x 1, ab x 1"}, {"b", "a", ""}, {"b", "b", ""}, {"aa", "aa\x00", "aa x 1"}, {"cc", "d", "cc x 2 w, cc y 1"}, {"c", "cc", ""}, {"", "a", "- x 1"},
	} {
		l, e := p.s.Scan(api.Range{Low: c.low, High: c.high})
		if e != api.OK || (c.low+c.high != "") && textOf(l) != c.want {
			t.Errorf("%s..%s: %s, %d", c.low, c.high, textOf(l), e)
		}
	}
}

func TestLevels(t *testing.T) { // P14.3
	for text, want := range map[string][]int{
		"": {}, "|": {0, 0}, "1: a x 1": {1}, "| 1: a x 1": {0, 1}, "1: a x 1; 2: a x 1 | | 3: a x 1; 4: b x 1; 5: c x 1 |": {2, 0, 3, 0}, "| | | | | | 1: a x 1": {0, 0, 0, 0, 0, 0, 1},
	} {
		p := openBoth(t, laid(t, 1<<16, "p", text), "p", 2)
		mustHave(t, p.s, want...)
		p.apply(t, "z x 1")
		mustHave(t, p.s, want...)
		p.apply(t, "z x 2")
		if len(want) == 0 {
			want = []int{0}
		}
		want[0]++
		mustHave(t, p.s, want...)
	}
}

// compacts opens a store of these files, has one Compact done to it, and tells
// what it answers, and which files there are then.
func compacts(t *testing.T, flush int, files string) (bool, string) {
	t.Helper()
	p := openBoth(t, laid(t, 1<<22, "p", files), "p", flush)
	was, e := p.s.Scan(api.Range{})
	must(t, e, api.OK)
	before := p.d.Copy()
	did, e := p.compact(t)
	must(t, e, api.OK)
	if !did {
		sameDisk(t, p.d, before)
	}
	// As long as versions rise with the levels, as they do here, it changes nothing of what is there.
	p.mustTell(t, textOf(was))
	after := told(t, p.d, "p")
	p = openBoth(t, p.d, "p", flush)
	p.mustTell(t, textOf(was))
	return did, after
}

func TestWhatIsMergedOfLevel0(t *testing.T) { // P14.5
	for _, c := range []struct {
		what  string
		flush int
		files string
		want  string // "": false
	}{
		{"no files", 1, "", ""},
		{"three files", 1, "3: a x 3; 2: a x 2; 1: a x 1", ""},
		{"four files", 1, "4: a x 4; 3: a x 3; 2: a x 2; 1: a x 1", " | 5: a x 4"},
		{"five files", 1, "5: a x 5; 4: a x 4; 3: a x 3; 2: a x 2; 1: a x 1", " | 6: a x 5"},
		{"four files that do not meet", 1, "4: d x 1; 3: a x 3; 2: c x 1; 1: b x 1", " | 5: a x 3, b x 1, c x 1, d x 1"},
		{"more cells than a file takes", 1, "4: d x 1; 3: a x 3, e x 1; 2: c x 1; 1: b x 1", " | 5: a x 3, b x 1, c x 1, d x 1; 6: e x 1"},
		{"just two files' cells", 1, "4: d x 1, f x 1; 3: a x 3, e x 1, g x 1; 2: c x 1, h x 1; 1: b x 1", " | 5: a x 3, b x 1, c x 1, d x 1; 6: e x 1, f x 1, g x 1, h x 1"},
		{"a greater flush", 2, "4: d x 1, f x 1; 3: a x 3, e x 1, g x 1, i x 1; 2: c x 1, h x 1; 1: b x 1", " | 5: a x 3, b x 1, c x 1, d x 1, e x 1, f x 1, g x 1, h x 1; 6: i x 1"},
		{"with those of level 1 that they meet", 1, "6: b x 4; 5: c x 3; 4: b x 2; 3: b x 2 | 1: a x 1, b x 1; 2: c x 1, d x 1; 7: e x 1", " | 8: a x 1, b x 4, c x 3, d x 1; 7: e x 1"},
		{"that end where they begin", 1, "6: c x 4; 5: c x 3; 4: d x 2; 3: d x 2 | 1: a x 1, b x 1; 2: bb x 1, c x 1; 7: d x 1, e x 1; 8: ee x 1", " | 1: a x 1, b x 1; 9: bb x 1, c x 4, d x 2, e x 1; 8: ee x 1"},
		{"that end just ahead, and begin just behind", 1, "6: c x 4; 5: c x 3; 4: d x 2; 3: d x 2 | 1: a x 1, b x 1; 2: bb x 1, bz x 1; 7: d0 x 1, e x 1; 8: ee x 1", " | 1: a x 1, b x 1; 2: bb x 1, bz x 1; 9: c x 4, d x 2; 7: d0 x 1, e x 1; 8: ee x 1"},
		{"that lie about them, and have none of their rows", 1, "6: c x 4; 5: c x 3; 4: d x 2; 3: d x 2 | 1: a x 1, z x 1", " | 7: a x 1, c x 4, d x 2, z x 1"},
		{"that lie between them, and have none of their rows", 1, "6: a x 4; 5: z x 3; 4: a x 2; 3: a x 2 | 1: b x 1; 2: c x 1; 7: zz x 1", " | 8: a x 4, b x 1, c x 1, z x 3; 7: zz x 1"},
		{"ahead of all of level 1", 1, "4: a x 4; 3: a x 3; 2: a x 2; 1: a x 1 | 5: b x 1; 6: c x 1", " | 7: a x 4; 5: b x 1; 6: c x 1"},
		{"behind all of level 1", 1, "4: d x 4; 3: d x 3; 2: d x 2; 1: d x 1 | 5: b x 1; 6: c x 1", " | 5: b x 1; 6: c x 1; 7: d x 4"},
		{"the empty row", 1, "4: - x 4; 3: - x 3, - y 3, a x 1; 2: - x 2; 1: - z 1 | 5: - u 1; 6: b x 1", " | 7: - u 1, - x 4, - y 3, - z 1; 8: a x 1; 6: b x 1"},
		{"deeper levels stay", 1, "4: a x 4; 3: a x 3; 2: a x 2; 1: a x 1 | | 5: a x 1; 6: b x 1 | | 7: a x 1", " | 8: a x 4 | 5: a x 1; 6: b x 1 |  | 7: a x 1"},
		{"level 0 goes ahead of others", 1, "4: a x 4; 3: a x 3; 2: a x 2; 1: a x 1 | 11: b x 1; 12: c x 1; 13: d x 1; 14: e x 1; 15: f x 1", " | 16: a x 4; 11: b x 1; 12: c x 1; 13: d x 1; 14: e x 1; 15: f x 1"},
	} {
		did, got := compacts(t, c.flush, c.files)
		want := c.want
		if !did && want == "" {
			want = c.files
		}
		if got != want || did != (c.want != "") {
			t.Errorf("%s: %v, %s, not %s", c.what, did, got, want)
		}
	}
}

func TestWhatIsMergedOfOtherLevels(t *testing.T) { // P14.5
	for _, c := range []struct {
		what  string
		flush int
		files string
		want  string // "": false
	}{
		{"four files of level 1", 1, " | 1: a x 1; 2: b x 1; 3: c x 1; 4: d x 1", ""},
		{"five files of level 1", 1, " | 1: a x 1; 2: b x 1; 3: c x 1; 4: d x 1; 5: e x 1", " | 2: b x 1; 3: c x 1; 4: d x 1; 5: e x 1 | 6: a x 1"},
		{"the first one by rows, not by Ids", 1, " | 5: a x 1; 4: b x 1; 3: c x 1; 2: d x 1; 1: e x 1", " | 4: b x 1; 3: c x 1; 2: d x 1; 1: e x 1 | 6: a x 1"},
		{"with those of level 2 that it meets", 1, " | 1: c x 2, d x 2; 2: e x 1; 3: f x 1; 4: g x 1; 5: h x 1 | 6: a x 1, b x 1; 7: bb x 1, c x 1; 8: d x 1, da x 1; 9: db x 1", " | 2: e x 1; 3: f x 1; 4: g x 1; 5: h x 1 | 6: a x 1, b x 1; 10: bb x 1, c x 2, d x 2, da x 1; 9: db x 1"},
		{"three files of level 0 stay", 1, "9: a x 3; 8: a x 2; 7: a x 2 | 1: a x 1; 2: b x 1; 3: c x 1; 4: d x 1; 5: e x 1", "9: a x 3; 8: a x 2; 7: a x 2 | 2: b x 1; 3: c x 1; 4: d x 1; 5: e x 1 | 10: a x 1"},
		{"the first level that has too many", 1, " | 1: a x 1; 2: b x 1; 3: c x 1; 4: d x 1; 5: e x 1 | " + rowFiles(100, 17), " | 2: b x 1; 3: c x 1; 4: d x 1; 5: e x 1 | 117: a x 1; " + rowFiles(100, 17)},
	} {
		did, got := compacts(t, c.flush, c.files)
		want := c.want
		if !did && want == "" {
			want = c.files
		}
		if got != want || did != (c.want != "") {
			t.Errorf("%s: %v, %s, not %s", c.what, did, short(got), short(want))
		}
	}
}

// rowFiles are so many files of one row each, rising, with Ids from first on.
func rowFiles(first, count int) string {
	var l []string
	for i := range count {
		l = append(l, fmt.Sprintf("%d: r%04d x 1", first+i, i))
	}
	return strings.Join(l, "; ")
}

func TestHowManyFilesALevelMayHave(t *testing.T) { // P14.5
	for n := 1; n <= 6; n++ {
		most := 1 << (2 * n)
		for _, count := range []int{most - 1, most, most + 1} {
			if count > 1024 {
				continue // such a state may not be
			}
			files := strings.Repeat(" | ", n) + rowFiles(1, count)
			did, got := compacts(t, 1, files)
			if did != (n <= 5 && count > most) {
				t.Errorf("%d files of level %d: %v", count, n, did)
			}
			if did && got != strings.Repeat(" | ", n)+rowFiles2(2, 1, count-1)+fmt.Sprintf(" | %d: r0000 x 1", count+1) {
				t.Errorf("%d files of level %d: %s", count, n, short(got))
			}
		}
	}
	// Level 6 is the last one: nothing of it is merged.
	if did, _ := compacts(t, 1, strings.Repeat(" | ", 6)+rowFiles(1, 1024)); did {
		t.Error("level 6 is merged")
	}
	// One of level 5 would be; but a state has no more than 1024 files.
	if did, _ := compacts(t, 1, strings.Repeat(" | ", 5)+rowFiles(1, 1024)); did {
		t.Error("1024 files of level 5 are merged")
	}
}

// rowFiles2 is as rowFiles, from another row on.
func rowFiles2(first, row, count int) string {
	var l []string
	for i := range count {
		l = append(l, fmt.Sprintf("%d: r%04d x 1", first+i, row+i))
	}
	return strings.Join(l, "; ")
}

func TestRowsAreNotParted(t *testing.T) { // P14.5
	for _, c := range []struct{ files, want string }{
		// The row of the fourth cell goes on; the one of the fifth does not.
		{"4: a a 1, a b 1; 3: a c 1; 2: b a 1; 1: b b 1, c a 1", " | 5: a a 1, a b 1, a c 1, b a 1, b b 1; 6: c a 1"},
		{"4: a a 1, a b 1; 3: a c 1; 2: a d 1; 1: b b 1, c a 1", " | 5: a a 1, a b 1, a c 1, a d 1; 6: b b 1, c a 1"},
		{"4: a a 1, a b 1; 3: a c 1, a e 1; 2: a d 1; 1: a f 1, a g 1, b a 1", " | 5: a a 1, a b 1, a c 1, a d 1, a e 1, a f 1, a g 1; 6: b a 1"},
		{"4: a a 1, b b 1; 3: b c 1, b e 1; 2: b d 1; 1: b f 1, b g 1, b h 1, b i 1, b j 1", " | 5: a a 1, b b 1, b c 1, b d 1, b e 1, b f 1, b g 1, b h 1, b i 1, b j 1"},
		{"4: a a 1, b b 1; 3: c c 1; 2: d d 1, d e 1; 1: d f 1, e a 1, e b 1, e c 1, e d 1, e e 1, f a 1", " | 5: a a 1, b b 1, c c 1, d d 1, d e 1, d f 1; 6: e a 1, e b 1, e c 1, e d 1, e e 1; 7: f a 1"},
		// What is gone does not count, nor do older versions.
		{"4: a a 2 gone, b b 2; 3: a b 2 gone; 2: b b 1; 1: a a 1, c c 1, d d 1, e e 1", " | 5: b b 2, c c 1, d d 1, e e 1"},
	} {
		if did, got := compacts(t, 1, c.files); !did || got != c.want {
			t.Errorf("%s: %v, %s, not %s", c.files, did, got, c.want)
		}
	}
	// A row of very many cells is one file.
	var l []api.Cell
	for i := range 9000 {
		l = append(l, api.Cell{Row: "b", Col: fmt.Sprintf("%06d", i), Version: 1})
	}
	p := openBoth(t, disk.New(1<<24), "p", 1)
	p.apply(t, "a x 1", "a x 2", "c x 1")
	must(t, p.applyList(t, l), api.OK)
	mustHave(t, p.s, 0, 2)
	if n := len(read(t, p.d, tableName("p", 5))); n != 9001 {
		t.Errorf("%d cells", n)
	}
}

func TestWhichOfTheGoneStay(t *testing.T) { // P14.5
	four := "4: b x 9 gone; 3: b y 9 gone; 2: b x 8; 1: b - 9"
	for _, c := range []struct{ files, want string }{
		{four, " | 5: b - 9"},
		// In level 1 all that they meet is merged: nothing older is left there.
		{four + " | 5: a x 1, b x 1, b y 1, c x 1", " | 6: a x 1, b - 9, c x 1"},
		{four + " | 5: a x 1; 6: c x 1", " | 5: a x 1; 7: b - 9; 6: c x 1"},
		// A file deeper than level 1 whose rows lie about theirs, whether it has it or not.
		{four + " | | 5: a x 1, c x 1", " | 6: b - 9, b x 9 gone, b y 9 gone | 5: a x 1, c x 1"},
		{four + " | | 5: b x 1", " | 6: b - 9, b x 9 gone, b y 9 gone | 5: b x 1"},
		{four + " | | 5: a x 1, b z 1", " | 6: b - 9, b x 9 gone, b y 9 gone | 5: a x 1, b z 1"},
		{four + " | | 5: b a 1, c x 1", " | 6: b - 9, b x 9 gone, b y 9 gone | 5: b a 1, c x 1"},
		{four + " | | | | | | 5: a x 1, c x 1", " | 6: b - 9, b x 9 gone, b y 9 gone |  |  |  |  | 5: a x 1, c x 1"},
		// And not, if its rows end just ahead, or begin just behind.
		{four + " | | 5: a x 1, az x 1; 6: b0 x 1, c x 1", " | 7: b - 9 | 5: a x 1, az x 1; 6: b0 x 1, c x 1"},
		{four + " | | 5: a x 1 | 6: c x 1", " | 7: b - 9 | 5: a x 1 | 6: c x 1"},
		// Each for itself.
		{"4: a x 9 gone; 3: b x 9 gone; 2: c x 9 gone; 1: d x 9 gone | 5: c y 1 | 6: b x 1, bb x 1; 7: d x 1", " | 8: b x 9 gone, c y 1, d x 9 gone | 6: b x 1, bb x 1; 7: d x 1"},
		// All of them: no file is laid, and levels at the end are none.
		{"4: a x 9 gone; 3: b x 9 gone; 2: c x 9 gone; 1: a x 1", ""},
		{"4: a x 9 gone; 3: b x 9 gone; 2: c x 9 gone; 1: a x 1 | 5: a x 1, b x 1; 6: c x 1", ""},
		{"4: a x 9 gone; 3: b x 9 gone; 2: c x 9 gone; 1: a x 1 | 5: a x 1, b x 1; 6: d x 1", " | 6: d x 1"},
		{"4: a x 9 gone; 3: b x 9 gone; 2: c x 9 gone; 1: a x 1 | 5: a x 1 | 6: d x 1", " |  | 6: d x 1"},
		// Of level 1: a file deeper than level 2 counts, others do not.
		{" | 1: b x 9 gone, c x 9; 2: d x 9; 3: e x 9; 4: f x 9; 5: g x 9", " | 2: d x 9; 3: e x 9; 4: f x 9; 5: g x 9 | 6: c x 9"},
		{" | 1: b x 9 gone; 2: d x 9; 3: e x 9; 4: f x 9; 5: g x 9 | 6: a x 1, c x 1", " | 2: d x 9; 3: e x 9; 4: f x 9; 5: g x 9 | 7: a x 1, c x 1"},
		{" | 1: b x 9 gone; 2: d x 9; 3: e x 9; 4: f x 9; 5: g x 9 | 6: a x 1, c x 1 | 7: b x 1", " | 2: d x 9; 3: e x 9; 4: f x 9; 5: g x 9 | 8: a x 1, b x 9 gone, c x 1 | 7: b x 1"},
		{"8: b x 10 | 1: b x 9 gone; 2: d x 9; 3: e x 9; 4: f x 9; 5: g x 9", "8: b x 10 | 2: d x 9; 3: e x 9; 4: f x 9; 5: g x 9"},
	} {
		if did, got := compacts(t, 100, c.files); !did || got != c.want {
			t.Errorf("%s: %v, %s, not %s", c.files, did, got, c.want)
		}
	}
}

func TestOfOneVersionThatOfTheFirstFileIsMerged(t *testing.T) { // P14.5
	for _, c := range []struct{ files, want string }{
		{"4: a x 1 d; 3: a x 1 c; 2: a x 1 b; 1: a x 1 a", " | 5: a x 1 d"},
		{"1: a x 1 a; 2: a x 1 b; 3: a x 1 c; 4: a x 1 d", " | 5: a x 1 a"},
		{"4: b x 1; 3: a x 1 c; 2: a x 1 b; 1: a x 1 a | 5: a x 1 e", " | 6: a x 1 c, b x 1"},
		{"4: b x 1; 3: a x 1 c; 2: a x 2 b; 1: a x 1 a | 5: a x 2 e", " | 6: a x 2 b, b x 1"},
		{"4: b x 1; 3: a x 1 c; 2: a x 1 b; 1: a x 1 a | 5: a x 2 e", " | 6: a x 2 e, b x 1"},
		{"4: b x 1; 3: a x 1 gone; 2: a x 1 b; 1: a x 1 a | 5: a x 1 e", " | 6: b x 1"},
		{"4: b x 1; 3: a x 1 c; 2: a x 1 gone; 1: a x 1 a | 5: a x 1 gone", " | 6: a x 1 c, b x 1"},
		{" | 1: a x 1 u; 2: d x 9; 3: e x 9; 4: f x 9; 5: g x 9 | 6: a x 1 w", " | 2: d x 9; 3: e x 9; 4: f x 9; 5: g x 9 | 7: a x 1 u"},
		// Of a file that has several versions of a place the newest one alone.
		{"4: a x 3, a x 2, a x 1; 3: b x 2 gone, b x 1; 2: c x 1; 1: c x 1", " | 5: a x 3, c x 1"},
	} {
		if did, got := compacts(t, 100, c.files); !did || got != c.want {
			t.Errorf("%s: %v, %s, not %s", c.files, did, got, c.want)
		}
	}
}

func TestCompactLeavesTheMemtableAndTheLog(t *testing.T) { // P14.5
	d := laid(t, 1<<16, "p", "4: a x 4; 3: a x 3; 2: a x 2; 1: a x 1")
	p := openBoth(t, d, "p", 100)
	p.apply(t, "a x 9, b x 1")
	log, _ := d.Read(logName("p", 1))
	if did, e := p.compact(t); !did || e != api.OK {
		t.Fatalf("%v, %d", did, e)
	}
	if data, _ := d.Read(logName("p", 1)); data != log || d.Synced(logName("p", 1)) != 0 {
		t.Fatal("the log is another one")
	}
	p.mustLie(t, " | 5: a x 4")
	p.mustTell(t, "a x 9, b x 1")
	state, _ := manifest.Load(d, "pm")
	if state.Log != 1 || state.Next != 6 {
		t.Fatalf("%v", state)
	}
}

func TestCompactTillThereIsNothingToBeDone(t *testing.T) { // P14.5, P14.7, R1
	p := openBoth(t, laid(t, 1<<22, "p", "903: a x 4; 902: a x 3; 901: z x 2; 900: a x 1 | "+rowFiles(1, 40)+" | "+rowFiles(100, 80)+" | "+rowFiles(200, 70)), "p", 1)
	was, _ := p.s.Scan(api.Range{})
	count := 0
	for {
		did, e := p.compact(t)
		must(t, e, api.OK)
		p.mustTell(t, textOf(was))
		if !did {
			break
		}
		if count++; count > 1000 {
			t.Fatal("there is no end")
		}
	}
	for n, files := range p.s.Levels() {
		if n == 0 && files > 0 || n > 0 && files > 1<<(2*n) {
			t.Errorf("%v", p.s.Levels())
		}
	}
}

func TestReplace(t *testing.T) { // P14.6
	for _, c := range []struct{ files, mem, list, want, tells string }{
		{"", "", "", "", ""},
		{"", "", "k x 5", "1: k x 5", "k x 5"},
		{"", "a x 1", "", "", ""},
		{"", "a x 1, k x 9", "k x 5", "1: k x 5", "k x 5"},
		{"1: a x 1; 2: b x 1 | 4: c x 1; 3: d x 1 | 5: a x 1", "a x 7", "", "", ""},
		{"1: a x 1; 2: b x 1 | 4: c x 1; 3: d x 1 | 5: a x 1", "a x 7", "a x 2 w", "6: a x 2 w", "a x 2 w"},
		// Of cells of several versions the newest ones, in order, and the gone ones too.
		{"1: a x 9", "", "b x 1, a x 1, a x 3 gone, b x 2 w, a x 2, - x 1", "2: - x 1, a x 3 gone, b x 2 w", "- x 1, b x 2 w"},
		{"1: a x 9", "", "a x 1 gone", "2: a x 1 gone", ""},
		// Of several of one Version the first one.
		{"", "", "a x 2 v, a x 2 gone, a x 2 w, a x 1 u", "1: a x 2 v", "a x 2 v"},
		{"4: a x 4; 3: a x 3; 2: a x 2; 1: a x 1", "", "a x 1", "5: a x 1", "a x 1"},
	} {
		d := laid(t, 1<<16, "p", c.files)
		p := openBoth(t, d, "p", 100)
		p.applyList(t, cellsOf(c.mem))
		must(t, p.replace(t, cellsOf(c.list)), api.OK)
		p.mustLie(t, c.want)
		p.mustTell(t, c.tells)
		log := p.slow.logNext()
		if state, e := manifest.Load(d, "pm"); e != api.OK || state.Log != log {
			t.Fatalf("Log is %d, not %d", state.Log, log)
		}
		d.Crash(nil)
		p = openBoth(t, d, "p", 100)
		p.mustTell(t, c.tells)
		p.mustLie(t, c.want)
		// It goes on as a store does.
		p.apply(t, "zz x 1")
		if c.tells != "" {
			c.tells += ", "
		}
		p.mustTell(t, c.tells+"zz x 1")
		must(t, p.replace(t, cellsOf(c.list)), api.OK)
		must(t, p.replace(t, nil), api.OK)
		p.mustLie(t, "")
		p.mustTell(t, "")
	}
}

func TestReplaceOfMoreCellsThanFlush(t *testing.T) { // P14.6: one file, in level 0, whatever it has
	var l []api.Cell
	for i := range 500 {
		l = append(l, api.Cell{Row: fmt.Sprintf("%04d", (i*7)%500), Col: "x", Version: 1})
	}
	p := openBoth(t, laid(t, 1<<20, "p", "3: a x 4; 2: a x 3; 1: a x 2"), "p", 1)
	must(t, p.replace(t, l), api.OK)
	mustHave(t, p.s, 1)
	if got, e := p.s.Scan(api.Range{}); e != api.OK || len(got) != 500 || !slices.IsSortedFunc(got, keys.Cmp) {
		t.Fatalf("%d cells, %d", len(got), e)
	}
	if did, e := p.compact(t); did || e != api.OK {
		t.Fatalf("%v, %d", did, e)
	}
}

func TestReplaceDropsTheLog(t *testing.T) { // P14.6
	p := openBoth(t, disk.New(1<<20), "p", 1024)
	for v := range 13 {
		p.apply(t, fmt.Sprintf("a x %d %s", v+1, strings.Repeat("v", 1000)))
	}
	must(t, p.replace(t, cellsOf("b x 1")), api.OK)
	if l := p.d.List(""); !slices.Equal(l, []string{"pm", tableName("p", 1), logName("p", 11)}) {
		t.Fatalf("%q", l)
	}
	if data, _ := p.d.Read(logName("p", 11)); p.d.Synced(logName("p", 11)) != len(data) {
		t.Fatal("the log is not synced")
	}
}

func TestFilesAreRemovedByRisingIds(t *testing.T) { // P14.5, P14.6: one that others took breaks the store just there
	files := "2: a x 4; 8: a x 3; 6: a x 2; 4: a x 1 | 7: a x 1; 3: b x 1 | 1: z x 1"
	for _, c := range []struct {
		call func(s *Store) api.Errno
		ids  []uint64
	}{
		{func(s *Store) api.Errno { did, e := s.Compact(); return orLie(did, e) }, []uint64{2, 4, 6, 7, 8}},
		{func(s *Store) api.Errno { return s.Replace(cellsOf("c x 1")) }, []uint64{1, 2, 3, 4, 6, 7, 8}},
		{func(s *Store) api.Errno { return s.Replace(nil) }, []uint64{1, 2, 3, 4, 6, 7, 8}},
	} {
		for at, id := range c.ids {
			d := laid(t, 1<<16, "p", files)
			s := mustOpen(t, d, "p", 100)
			must(t, s.Apply(cellsOf("d x 1")), api.OK)
			must(t, d.Remove(tableName("p", id)), api.OK)
			must(t, c.call(s), api.ErrNone)
			isBroken(t, s)
			for i, other := range c.ids {
				if _, e := d.Read(tableName("p", other)); (e == api.OK) != (i > at) {
					t.Errorf("without %d: %d is there: %v", id, other, e == api.OK)
				}
			}
			// The state was saved ahead of it: opened anew it is all there.
			again := mustOpen(t, d, "p", 100)
			if n := len(again.Levels()); n > 0 && again.Levels()[0] > 1 {
				t.Errorf("%v", again.Levels())
			}
		}
	}
}

// orLie has a Compact that answers true beside an error, or false without one, be seen.
func orLie(did bool, e api.Errno) api.Errno {
	if did != (e == api.OK) {
		return -1
	}
	return e
}

func TestAStoreThatIsNone(t *testing.T) { // R1, R3
	var none *Store
	var zero Store
	for _, s := range []*Store{nil, none, new(Store), &zero, {}} {
		isBroken(t, s)
	}
}

// moreRoom is a disk with the same, and much room.
func moreRoom(t *testing.T, d *disk.Disk) *disk.Disk {
	t.Helper()
	c := disk.New(1 << 30)
	for _, name := range d.List("") {
		data, _ := d.Read(name)
		must(t, c.Append(name, data[:d.Synced(name)]), api.OK)
		must(t, c.Sync(name), api.OK)
		must(t, c.Append(name, data[d.Synced(name):]), api.OK)
	}
	return c
}

// history is what P14.7 and P14.8 speak of: what the last Replace was handed,
// what was applied since, and how many of these batches were ahead of the last
// Sync, Flush or Replace.
type history struct {
	begin   []api.Cell
	batches [][]api.Cell
	safe    int
}

// first tells what is there with the first n batches.
func (h history) first(n int) string {
	l := slices.Clone(h.begin)
	for _, b := range h.batches[:n] {
		l = append(l, b...)
	}
	return textOf(slices.DeleteFunc(newest(l), func(c api.Cell) bool { return c.Gone }))
}

func (h history) all() string { return h.first(len(h.batches)) }

// allowed tells all that may be there behind a loss of power.
func (h history) allowed() []string {
	var l []string
	for n := h.safe; n <= len(h.batches); n++ {
		l = append(l, h.first(n))
	}
	return l
}

// with is the history with one batch more.
func (h history) with(l []api.Cell) history {
	h.batches = append(slices.Clip(h.batches), l)
	return h
}

// keeps are ways in which a loss of power may leave a disk's files: each number
// of bytes that may stay of all of them, and some in which each keeps its own.
func keeps(d *disk.Disk) [][]int {
	u, files := 0, d.List("")
	for _, name := range files {
		data, _ := d.Read(name)
		u = max(u, len(data)-d.Synced(name))
	}
	l := [][]int{nil, {}, slices.Repeat([]int{-1}, len(files))}
	step := 1 + u/40
	for n := 0; n <= u; n += step {
		l = append(l, slices.Repeat([]int{n}, len(files)))
	}
	for i := range files {
		for _, n := range []int{1, 9, -1, -2} {
			one := make([]int, len(files))
			one[i] = n
			l = append(l, one)
			rest := slices.Repeat([]int{-1}, len(files))
			rest[i] = n - 1
			l = append(l, rest)
		}
	}
	return l
}

// lasts has what a loss of power leaves be one of these, whichever way it takes.
func lasts(t *testing.T, d *disk.Disk, flush int, allowed []string) {
	t.Helper()
	for _, keep := range keeps(d) {
		c := d.Copy()
		c.Crash(keep)
		p := openBoth(t, c, "p", flush)
		l, e := p.s.Scan(api.Range{})
		must(t, e, api.OK)
		text := textOf(l)
		if !slices.Contains(allowed, text) {
			t.Fatalf("kept %v: there is %s; there may be %q", keep, text, allowed)
		}
		told(t, c, "p") // no file is there that is not the state's
		// What is there lasts, and the store goes on.
		must(t, p.s.Apply(cellsOf("zzz x 1000000")), api.OK)
		must(t, p.s.Sync(), api.OK)
		c.Crash(nil)
		if text != "" {
			text += ", "
		}
		openBoth(t, c, "p", flush).mustTell(t, text+"zzz x 1000000")
	}
}

// tracked is a pair whose history is kept; versions rise.
type tracked struct {
	pair
	h history
	v int
}

func track(t *testing.T, d *disk.Disk, flush int) *tracked {
	t.Helper()
	return &tracked{pair: openBoth(t, d, "p", flush)}
}

// batch reads cells of the next version; each is a row, and a column or "gone".
func (k *tracked) batch(text string) []api.Cell {
	var l []api.Cell
	for one := range strings.SplitSeq(text, ",") {
		k.v++
		w := strings.Fields(one)
		l = append(l, cellsOf(fmt.Sprintf("%s x %d %s", w[0], k.v, strings.Join(w[1:], " ")))...)
	}
	return l
}

func (k *tracked) done(t *testing.T, l []api.Cell) api.Errno {
	t.Helper()
	e := k.applyList(t, l)
	if e == api.OK {
		k.h = k.h.with(l)
		if len(k.slow.mem) == 0 {
			k.h.safe = len(k.h.batches)
		}
	}
	return e
}

func (k *tracked) synced(e api.Errno) api.Errno {
	if e == api.OK {
		k.h.safe = len(k.h.batches)
	}
	return e
}

func (k *tracked) replaced(t *testing.T, l []api.Cell) api.Errno {
	t.Helper()
	e := k.replace(t, l)
	if e == api.OK {
		k.h = history{begin: l}
	}
	return e
}

// deed is a call that may be cut off: it tells its answer, and what may be there
// behind a loss of power, if it is none.
type deed struct {
	what string
	do   func(t *testing.T) (api.Errno, []string)
}

func (k *tracked) applies(text string) deed {
	return deed{"Apply", func(t *testing.T) (api.Errno, []string) {
		l := k.batch(text)
		may := k.h.with(l).allowed()
		return k.done(t, l), may
	}}
}

func (k *tracked) replaces(text string) deed {
	return deed{"Replace", func(t *testing.T) (api.Errno, []string) {
		var l []api.Cell
		if text != "" {
			l = k.batch(text)
		}
		may := append(k.h.allowed(), history{begin: l}.all())
		return k.replaced(t, l), may
	}}
}

func (k *tracked) deeds() []deed {
	sync := deed{"Sync", func(t *testing.T) (api.Errno, []string) { return k.synced(k.sync(t)), k.h.allowed() }}
	flush := deed{"Flush", func(t *testing.T) (api.Errno, []string) { return k.synced(k.flush(t)), k.h.allowed() }}
	compact := deed{"Compact", func(t *testing.T) (api.Errno, []string) { _, e := k.compact(t); return e, k.h.allowed() }}
	return []deed{
		k.applies("a, b, c"), k.applies("b gone, dd v"), sync, k.applies("e"), k.applies("f"), flush, k.applies("g gone, a gone, h value"), k.applies("i"), flush,
		k.applies("j, k, l, m, n, o, p, q, r, s, t, u, v, w"), k.applies("a, b"), flush, k.applies("c"), flush, k.applies("d"), flush, k.applies("e"), flush, compact,
		k.applies("f"), k.replaces("a, b, aa, k gone"), k.applies("c"), k.replaces(""), k.applies("a"),
	}
}

// looks tells a store's files, and how many bytes of each there are, and are synced.
func looks(d *disk.Disk) string {
	var out []string
	for _, name := range d.List("p") {
		data, _ := d.Read(name)
		out = append(out, fmt.Sprint(name, len(data), d.Synced(name)))
	}
	return strings.Join(out, " ")
}

// fill leaves so many bytes free on both disks.
func (p pair) fill(t *testing.T, free int) {
	t.Helper()
	for _, d := range []*disk.Disk{p.d, p.slow.d} {
		must(t, d.Append("other", strings.Repeat("o", d.Free()-free)), api.OK)
		must(t, d.Sync("other"), api.OK)
	}
}

func TestNoRoomAtEachStep(t *testing.T) { // P14.2, P14.4 to P14.6, P14.8: the store is broken then
	met := map[string]int{}
	base := &tracked{pair: pair{d: disk.New(1 << 16)}}
	for i := range base.deeds() {
		last := ""
		for free := 0; ; free++ {
			k := &tracked{pair: openBoth(t, base.d.Copy(), "p", 3), h: base.h, v: base.v}
			k.fill(t, free)
			deed := k.deeds()[i]
			e, may := deed.do(t)
			if e == api.OK {
				break
			}
			must(t, e, api.ErrFull)
			if !k.slow.broken {
				t.Fatal("the store is not broken")
			}
			if now := looks(k.slow.d); now == last { // it was cut off at the same step with one byte less
				continue
			} else {
				last = now
			}
			met[deed.what]++
			must(t, k.d.Remove("other"), api.OK)
			lasts(t, k.d, 3, may)
			// Without a loss of power all that was answered is there.
			l, e := openBoth(t, k.d, "p", 3).s.Scan(api.Range{})
			must(t, e, api.OK)
			if text := textOf(l); text != k.h.all() && text != may[len(may)-1] {
				t.Fatalf("there is %s, not %s", text, k.h.all())
			}
		}
		k := &tracked{pair: openBoth(t, base.d, "p", 3), h: base.h, v: base.v}
		e, _ := k.deeds()[i].do(t)
		must(t, e, api.OK)
		base = k
	}
	for what, least := range map[string]int{"Apply": 20, "Flush": 10, "Compact": 2, "Replace": 3} {
		if met[what] < least {
			t.Errorf("%s is cut off at too few steps: %v", what, met)
		}
	}
}

func TestALogThatHasNoRoomBreaksTheStore(t *testing.T) { // P14.2: the highest number of a file of the log is 10^15
	d := disk.New(1 << 20)
	frame, _ := seal.Frame(record(t, "a x 1 "+strings.Repeat("v", 4096)))
	put(t, d, logName("p", 1e15), frame)
	p := openBoth(t, d, "p", 100)
	must(t, p.applyList(t, cellsOf("b x 1")), api.ErrFull)
	isBroken(t, p.s)
}

func TestFilesThatOthersTookBreakTheStore(t *testing.T) { // R1: nothing is done behind the error
	for what, call := range map[string]func(s *Store) api.Errno{
		"Sync": (*Store).Sync, "Flush": (*Store).Flush, "Replace": func(s *Store) api.Errno { return s.Replace(cellsOf("b x 1")) },
	} {
		d := laid(t, 1<<16, "p", "1: a x 1")
		s := mustOpen(t, d, "p", 4)
		must(t, s.Apply(cellsOf("a x 2")), api.OK)
		must(t, d.Remove(logName("p", 1)), api.OK)
		was := d.Copy()
		if e := call(s); e != api.ErrNone {
			t.Errorf("%s: %d", what, e)
		}
		sameDisk(t, d, was)
		isBroken(t, s)
		sameDisk(t, d, was)
	}
}

func (s *slow) clone() *slow {
	c := *s
	c.d, c.mem, c.saved, c.state = s.d.Copy(), maps.Clone(s.mem), copied(s.saved), copied(s.state)
	return &c
}

// atEachStep cuts a call off ahead of each of its steps, and has what is there
// then be one of these, whatever a loss of power takes.
func (k *tracked) atEachStep(t *testing.T, steps int, call func(s *slow) api.Errno, during, behind []string) {
	t.Helper()
	for done := 0; ; done++ {
		s := k.slow.clone()
		s.left = done
		if e := call(s); e != noStepLeft {
			must(t, e, api.OK)
			if done != steps {
				t.Fatalf("%d steps, not %d", done, steps)
			}
			lasts(t, s.d, s.flush, behind)
			return
		}
		lasts(t, s.d, s.flush, during)
	}
}

func TestACrashAtEachStepOfApply(t *testing.T) { // P14.8, W8
	// One that only goes to the log.
	k := track(t, disk.New(1<<20), 100)
	k.done(t, k.batch("a, b"))
	k.synced(k.sync(t))
	k.done(t, k.batch("a gone, c v"))
	l := k.batch("d, e gone, aa")
	k.atEachStep(t, 1, func(s *slow) api.Errno { return s.apply(l) }, k.h.allowed(), k.h.with(l).allowed())

	// One that begins a file of the log: what stands ahead is synced first.
	k = track(t, disk.New(1<<20), 100)
	k.done(t, k.batch("a, b"))
	k.synced(k.sync(t))
	k.done(t, k.batch("c "+strings.Repeat("v", 2000)))
	k.done(t, k.batch("d "+strings.Repeat("v", 2100)))
	l = k.batch("a gone, e")
	behind := k.h.with(l)
	behind.safe = 3
	k.atEachStep(t, 2, func(s *slow) api.Errno { return s.apply(l) }, k.h.allowed(), behind.allowed())

	// One that is laid: behind it all is there.
	k = track(t, disk.New(1<<20), 4)
	k.done(t, k.batch("a, b"))
	k.done(t, k.batch("b gone"))
	l = k.batch("c, d v")
	behind = k.h.with(l)
	k.atEachStep(t, 1+1+2+4, func(s *slow) api.Errno { return s.apply(l) }, behind.allowed(), []string{behind.all()})

	// One that is laid, and merged with three others and one of level 1.
	k = track(t, disk.New(1<<20), 2)
	for range 7 {
		k.done(t, k.batch("a, b v"))
	}
	k.done(t, k.batch("c"))
	if n := k.s.Levels(); !slices.Equal(n, []int{3, 1}) {
		t.Fatalf("%v", n)
	}
	l = k.batch("f, a gone")
	behind = k.h.with(l)
	k.atEachStep(t, 1+1+2+4+2+4+5, func(s *slow) api.Errno { return s.apply(l) }, behind.allowed(), []string{behind.all()})
}

func TestACrashAtEachStepOfSyncAndFlush(t *testing.T) { // P14.8, W8
	k := track(t, disk.New(1<<20), 100)
	for range 3 {
		for range 6 {
			k.done(t, k.batch("a, b v, a gone, c "+strings.Repeat("v", 300)))
			k.done(t, k.batch("d"))
		}
		k.atEachStep(t, 1, (*slow).sync, k.h.allowed(), []string{k.h.all()})
		drops := len(k.d.List("pw")) - 1
		k.atEachStep(t, 1+2+4+drops, (*slow).flushed, k.h.allowed(), []string{k.h.all()})
		k.synced(k.flush(t))
	}
}

func TestACrashAtEachStepOfCompact(t *testing.T) { // P14.8, W8
	k := track(t, laid(t, 1<<20, "p", "7: a x 1, b x 1; 6: a x 1; 5: c x 1; 4: b x 1 | 1: a x 1; 2: b x 1, d x 1; 3: e x 1 | 8: a x 1, z x 1"), 1)
	k.h.begin, k.v = cellsOf("a x 1, b x 1, c x 1, d x 1, e x 1, z x 1"), 1
	k.slow.flush = 100 // nothing is to be laid of what follows
	must(t, k.slow.apply(k.batch("a gone, c v")), api.OK)
	k.h = k.h.with(cellsOf("a x 2 gone, c x 3 v"))
	must(t, k.slow.sync(), api.OK)
	k.h.safe = 1
	must(t, k.slow.apply(k.batch("f")), api.OK)
	k.h = k.h.with(cellsOf("f x 4"))
	k.slow.flush = 1
	compact := func(s *slow) api.Errno { _, e := s.compact(); return e }
	k.atEachStep(t, 2*1+4+6, compact, k.h.allowed(), k.h.allowed())
}

func TestACrashAtEachStepOfReplace(t *testing.T) { // P14.8, W8: wholly or not at all
	for _, list := range []string{"", "a", "a, b v, c gone, zz"} {
		k := track(t, laid(t, 1<<20, "p", "5: a x 1; 4: b x 1 | 2: c x 1; 3: d x 1 | 1: a x 1"), 100)
		k.h.begin, k.v = cellsOf("a x 1, b x 1, c x 1, d x 1"), 1
		for range 6 {
			k.done(t, k.batch("b gone, d, e "+strings.Repeat("v", 900)))
		}
		k.synced(k.sync(t))
		k.done(t, k.batch("h"))
		k.done(t, k.batch("i"))
		if n := len(k.d.List("pw")); n != 2 {
			t.Fatalf("%d files of the log", n)
		}
		var l []api.Cell
		steps := 1 + 4 + 1 + 5
		if list != "" {
			l = k.batch(list)
			steps += 2
		}
		behind := history{begin: l}.all()
		k.atEachStep(t, steps, func(s *slow) api.Errno { return s.replace(l) }, append(k.h.allowed(), behind), []string{behind})
		must(t, k.replaced(t, l), api.OK)
		lasts(t, k.d, 100, []string{behind})
	}
}

func TestCellsThatNoFileTakes(t *testing.T) { // P14.2, P14.4, P14.6: table.Write's error is the call's, and breaks nothing
	long := api.Cell{Row: "b", Col: "x", Version: 1, Value: strings.Repeat("v", 1<<16)}
	p := openBoth(t, laid(t, 1<<22, "p", "1: a x 1"), "p", 2)
	must(t, p.applyList(t, []api.Cell{long}), api.OK)
	for range 2 {
		was := p.d.Copy()
		must(t, p.flush(t), api.ErrLong)
		if name := logName("p", 1); p.d.Synced(name) == was.Synced(name) {
			// That the log was synced is all that a disk could tell of it.
			sameDisk(t, p.d, was)
		}
	}
	// The batch is in the log, and in the memtable, ahead of the Flush that is refused.
	must(t, p.applyList(t, cellsOf("c x 1")), api.ErrLong)
	must(t, p.applyList(t, nil), api.OK)
	mustGet(t, p.s, long)
	mustGet(t, p.s, cellsOf("c x 1")[0])
	mustHave(t, p.s, 1)
	p = openBoth(t, p.d, "p", 2)
	mustGet(t, p.s, long)
	// What is handed to a Replace that is refused is not there.
	must(t, p.replace(t, []api.Cell{long, cellsOf("z x 1")[0]}), api.ErrLong)
	mustNotGet(t, p.s, "z", "x")
	mustGet(t, p.s, long)
	mustHave(t, p.s, 1)
	must(t, p.replace(t, cellsOf("c x 1")), api.OK)
	p.mustTell(t, "c x 1")
	p.apply(t, "d x 1", "e x 1")
	mustHave(t, p.s, 2)
}

func columns(row string, from, to int) []api.Cell {
	var l []api.Cell
	for i := from; i < to; i++ {
		l = append(l, api.Cell{Row: row, Col: fmt.Sprintf("%06d", i), Version: 1})
	}
	return l
}

func TestMorePlacesThanAFileTakes(t *testing.T) { // P14.2, P14.5, P14.6: at most 2^15
	for count, want := range map[int]api.Errno{1 << 15: api.OK, 1<<15 + 1: api.ErrLong} {
		l := columns("r", 0, count)
		s := mustOpen(t, disk.New(1<<24), "p", 1024)
		must(t, s.Apply(l), want)
		if got, e := s.Scan(api.Range{}); e != api.OK || !slices.Equal(got, l) {
			t.Fatalf("%d cells, %d", len(got), e)
		}
		s = mustOpen(t, disk.New(1<<24), "p", 1024)
		must(t, s.Replace(l), want)
		if got, e := s.Scan(api.Range{}); e != api.OK || (len(got) == count) != (want == api.OK) {
			t.Fatalf("%d cells, %d", len(got), e)
		}
	}
	// A Compact of one row's places: what it laid ahead of them is gone again.
	d := disk.New(1 << 24)
	s := mustOpen(t, d, "p", 1)
	must(t, s.Apply(append(columns("a", 0, 5), columns("b", 0, 9000)...)), api.OK)
	must(t, s.Apply(columns("b", 9000, 18000)), api.OK)
	must(t, s.Apply(columns("b", 18000, 27000)), api.OK)
	must(t, s.Apply(columns("b", 27000, 33000)), api.ErrLong)
	mustHave(t, s, 4)
	was := d.Copy()
	for range 2 {
		if did, e := s.Compact(); did || e != api.ErrLong {
			t.Fatalf("%v, %d", did, e)
		}
		sameDisk(t, d, was)
	}
	// The store goes on, and the next file has the next Id.
	must(t, s.Apply(cellsOf("c x 1")), api.ErrLong)
	mustHave(t, s, 5)
	if l := d.List("pt"); len(l) != 5 || l[4] != tableName("p", 5) {
		t.Fatalf("%q", l)
	}
	if l, e := s.Scan(api.Range{Low: "b"}); e != api.OK || len(l) != 33001 {
		t.Fatalf("%d cells, %d", len(l), e)
	}
}

func TestAStateThatMayNotBe(t *testing.T) { // P14.4 to P14.6: it is not saved, and breaks nothing
	// 1024 files there may be, and no more.
	p := openBoth(t, laid(t, 1<<22, "p", rowFiles(1, 1023)), "p", 100)
	p.apply(t, "a x 1")
	must(t, p.flush(t), api.OK)
	p.apply(t, "b x 1")
	for range 2 {
		must(t, p.flush(t), api.ErrArg)
		mustHave(t, p.s, 1024)
		mustGet(t, p.s, cellsOf("b x 1")[0])
	}
	if did, e := p.compact(t); !did || e != api.OK {
		t.Fatalf("%v, %d", did, e)
	}
	must(t, p.flush(t), api.OK)
	mustHave(t, p.s, 1, 3)
	mustGet(t, p.s, cellsOf("b x 1")[0])

	// A Compact that would lay more of them.
	var many []api.Cell
	for i := range 4100 {
		many = append(many, api.Cell{Row: fmt.Sprintf("%06d", i), Col: "x", Version: 1})
	}
	d := disk.New(1 << 24)
	s := mustOpen(t, d, "p", 1024)
	must(t, s.Replace(many), api.OK)
	for v := range 3 {
		must(t, s.Apply(cellsOf(fmt.Sprintf("a x %d", v+1))), api.OK)
		must(t, s.Flush(), api.OK)
	}
	s = mustOpen(t, d, "p", 1)
	was := d.Copy()
	for range 2 {
		if did, e := s.Compact(); did || e != api.ErrArg {
			t.Fatalf("%v, %d", did, e)
		}
		sameDisk(t, d, was)
		mustHave(t, s, 4)
	}
	must(t, s.Replace(many[:9]), api.OK)
	mustHave(t, s, 1)

	// Next at its end.
	d = disk.New(1 << 16)
	must(t, manifest.Save(d, "pm", api.Files{Next: 1<<40 - 1, Log: 1}), api.OK)
	p = openBoth(t, d, "p", 1)
	p.apply(t, "a x 1")
	p.mustLie(t, fmt.Sprint(1<<40-1, ": a x 1"))
	must(t, p.applyList(t, cellsOf("b x 1")), api.ErrArg)
	p.mustLie(t, fmt.Sprint(1<<40-1, ": a x 1"))
	must(t, p.replace(t, cellsOf("b x 1")), api.ErrArg)
	p.mustTell(t, "a x 1, b x 1")
	must(t, p.replace(t, nil), api.OK)
	p.mustTell(t, "")

	// The log's Next beyond a state's Log.
	d = disk.New(1 << 16)
	frame, _ := seal.Frame(record(t, "a x 1"))
	put(t, d, logName("p", 1<<40), frame)
	p = openBoth(t, d, "p", 100)
	must(t, p.flush(t), api.ErrArg)
	must(t, p.replace(t, nil), api.ErrArg)
	p.mustTell(t, "a x 1")
	if l := d.List(""); len(l) != 1 {
		t.Fatalf("%q", l)
	}
}

// anyCell is one that may be, of a few places.
func anyCell(next func(int) int, version uint64) api.Cell {
	c := api.Cell{Row: string([]byte{byte('a' + next(6)), byte('a' + next(6))}[:next(3)]), Col: []string{"x", "y", "", "xx"}[next(4)], Version: version, Value: strings.Repeat("v", next(9))}
	if c.Row == "" && c.Col == "" {
		c.Col = "own"
	}
	if next(3) == 0 {
		c.Gone, c.Value = true, ""
	}
	return c
}

// world is a store that any things are done to; versions rise, or do not.
type world struct {
	pair
	h      history
	rising bool
	v      uint64
	next   func(int) int
}

func anyWorld(t *testing.T, next func(int) int) *world {
	t.Helper()
	flush := []int{1, 1, 2, 3, 5, 20}[next(6)]
	room := []int{1 << 20, 1 << 20, 1 << 20, 200 + next(2000)}[next(4)]
	return &world{pair: openBoth(t, disk.New(room), "p", flush), rising: next(2) == 0, next: next}
}

func (w *world) list(most int) []api.Cell {
	var l []api.Cell
	for range w.next(most) {
		w.v++
		version := w.v
		if !w.rising {
			version = 1 + uint64(w.next(5))
		}
		l = append(l, anyCell(w.next, version))
	}
	return l
}

// reopen opens what the disk has, with more room, if the store is broken.
func (w *world) reopen(t *testing.T) {
	t.Helper()
	d, flush := w.d, w.slow.flush
	if w.slow.broken {
		d = moreRoom(t, d)
	}
	if w.next(3) == 0 {
		flush = 1 + w.next(6)
	}
	w.pair = openBoth(t, d, "p", flush)
	if w.s == nil { // there was no room for the log to be written anew
		w.pair = openBoth(t, moreRoom(t, d), "p", flush)
	}
}

func (w *world) crash(t *testing.T) {
	t.Helper()
	keep := make([]int, w.next(12))
	for i := range keep {
		keep[i] = w.next(120) - 30
	}
	w.d.Crash(keep)
	w.slow.d.Crash(keep)
	w.reopen(t)
	l, e := w.s.Scan(api.Range{})
	must(t, e, api.OK)
	if !w.rising {
		return
	}
	// How many batches there are: all that are safe, and some of the rest.
	for n := len(w.h.batches); n >= w.h.safe; n-- {
		if w.h.first(n) == textOf(l) {
			w.h.batches = w.h.batches[:n]
			w.h.safe = n
			return
		}
	}
	t.Fatalf("there is %s; there may be %q", textOf(l), w.h.allowed())
}

// step does one thing to both, as the numbers say.
func (w *world) step(t *testing.T) {
	t.Helper()
	e := api.OK
	switch w.next(20) {
	default:
		l := w.list(5)
		if e = w.applyList(t, l); len(l) > 0 {
			w.h = w.h.with(l) // one that is cut off may be there too
			if e == api.OK && len(w.slow.mem) == 0 {
				w.h.safe = len(w.h.batches)
			}
		}
	case 0, 1:
		if e = w.sync(t); e == api.OK {
			w.h.safe = len(w.h.batches)
		}
	case 2, 3:
		if e = w.flush(t); e == api.OK {
			w.h.safe = len(w.h.batches)
		}
	case 4, 5, 6:
		_, e = w.compact(t)
	case 7:
		if w.next(3) > 0 {
			return
		}
		l := w.list(12)
		if e = w.replace(t, l); e == api.OK {
			w.h = history{begin: newest(l)}
		}
	case 8:
		texts := []string{"", "a", "aa", "b", "ba", "c", "f", "\xff"}
		w.scan(t, api.Range{Low: texts[w.next(len(texts))], High: texts[w.next(len(texts))]})
	case 9:
		w.crash(t)
		return
	case 10:
		w.reopen(t)
	case 11:
		e = w.applyList(t, append(w.list(3), api.Cell{}))
		if e == api.ErrArg {
			e = api.OK
		}
	}
	if e == api.OK && w.rising {
		w.mustTell(t, w.h.all())
	}
	if w.slow.broken {
		must(t, e, api.ErrFull)
		w.crash(t)
	}
}

func TestAnyThingsDoneToAnyStores(t *testing.T) { // P14.1 to P14.8, W8, R6
	r := rand.New(rand.NewSource(14))
	deepest := 0
	for range 250 {
		w := anyWorld(t, r.Intn)
		for range 60 {
			w.step(t)
			deepest = max(deepest, len(w.s.Levels()))
		}
	}
	if deepest < 3 {
		t.Errorf("no store has more than %d levels", deepest)
	}
}

func TestTheSameDoneIsTheSame(t *testing.T) { // R6
	for seed := range int64(30) {
		a, b := anyWorld(t, rand.New(rand.NewSource(seed)).Intn), anyWorld(t, rand.New(rand.NewSource(seed)).Intn)
		for range 40 {
			a.step(t)
			b.step(t)
			sameDisk(t, a.d, b.d)
		}
	}
}

func TestAStoreOpenedAnewIsTheSame(t *testing.T) { // P14.1, R6: what is kept in memory is what the disk says
	r := rand.New(rand.NewSource(1414))
	for range 60 {
		w := anyWorld(t, r.Intn)
		for range 30 {
			w.step(t)
			again := mustOpen(t, w.d.Copy(), "p", w.slow.flush)
			mustHave(t, again, w.s.Levels()...)
			one, _ := w.s.Scan(api.Range{})
			two, _ := again.Scan(api.Range{})
			if !slices.Equal(one, two) {
				t.Fatalf("%s, opened anew %s", textOf(one), textOf(two))
			}
		}
	}
}

func TestManyLevels(t *testing.T) { // P14.7: when files are laid and merged changes nothing
	for _, flush := range []int{1, 2, 7} {
		r := rand.New(rand.NewSource(int64(flush)))
		d := disk.New(1 << 28)
		s := mustOpen(t, d, "p", flush)
		model := map[place]api.Cell{}
		v := uint64(0)
		for i := range 1500 {
			var l []api.Cell
			for range 1 + r.Intn(4) {
				v++
				c := api.Cell{Row: fmt.Sprintf("r%03d", r.Intn(500)), Col: []string{"x", "y"}[r.Intn(2)], Version: v, Value: fmt.Sprint(i)}
				if r.Intn(4) == 0 {
					c.Gone, c.Value = true, ""
				}
				l = append(l, c)
				model[place{c.Row, c.Col}] = c
			}
			must(t, s.Apply(l), api.OK)
			switch r.Intn(40) {
			case 0:
				must(t, s.Flush(), api.OK)
			case 1:
				for range 3 {
					_, e := s.Compact()
					must(t, e, api.OK)
				}
			case 2:
				must(t, s.Sync(), api.OK)
				d.Crash(nil)
				s = mustOpen(t, d, "p", flush)
			}
			for _, c := range l {
				c = model[place{c.Row, c.Col}]
				got, is, e := s.Get(c.Row, c.Col)
				if e != api.OK || is == c.Gone || is && got != c {
					t.Fatalf("%v: %v, %v, %d", c, got, is, e)
				}
			}
			if i%500 == 499 {
				want := slices.SortedFunc(maps.Values(model), keys.Cmp)
				want = slices.DeleteFunc(want, func(c api.Cell) bool { return c.Gone })
				if got, e := s.Scan(api.Range{}); e != api.OK || !slices.Equal(got, want) {
					t.Fatalf("%d cells, not %d", len(got), len(want))
				}
				told(t, d, "p")
			}
		}
		if n := s.Levels(); len(n) < 3 {
			t.Errorf("flush %d: %v", flush, n)
		}
	}
}

func TestABatchIsThereWhollyOrNotAtAll(t *testing.T) { // P14.8
	for keep := range 80 {
		d := disk.New(1 << 16)
		s := mustOpen(t, d, "p", 100)
		must(t, s.Apply(cellsOf("a x 1, b x 1")), api.OK)
		must(t, s.Apply(cellsOf("a x 2, b x 2, c x 2")), api.OK)
		must(t, s.Apply(cellsOf("a x 3 gone")), api.OK)
		d.Crash([]int{keep})
		s = mustOpen(t, d, "p", 100)
		l, e := s.Scan(api.Range{})
		must(t, e, api.OK)
		if text := textOf(l); !slices.Contains([]string{"", "a x 1, b x 1", "a x 2, b x 2, c x 2", "b x 2, c x 2"}, text) {
			t.Errorf("%d: %s", keep, text)
		}
	}
}

func TestTwoStoresOnOneDisk(t *testing.T) { // ahead of P14.1: each has its own files
	for _, prefixes := range [][2]string{{"a", "b"}, {"g1/", "g11/"}, {"", "t"}, {"w", ""}, {"m", "mm"}, {"t", "tt"}, {"", "w"}} {
		d := disk.New(1 << 20)
		a, b := mustOpen(t, d, prefixes[0], 1), mustOpen(t, d, prefixes[1], 2)
		for v := range 9 {
			must(t, a.Apply(cellsOf(fmt.Sprintf("a x %d a", v+1))), api.OK)
			must(t, b.Apply(cellsOf(fmt.Sprintf("a x %d b", v+1))), api.OK)
		}
		must(t, b.Sync(), api.OK)
		d.Crash(nil)
		a, b = mustOpen(t, d, prefixes[0], 1), mustOpen(t, d, prefixes[1], 2)
		mustGet(t, a, cellsOf("a x 9 a")[0])
		mustGet(t, b, cellsOf("a x 9 b")[0])
	}
}

func over(b []byte) string { return unsafe.String(unsafe.SliceData(b), len(b)) }

func TestWhatIsHandedInIsNotKept(t *testing.T) { // R5
	for _, flush := range []int{1, 2, 100} {
		for _, apply := range []func(s *Store, l []api.Cell) api.Errno{(*Store).Apply, (*Store).Replace} {
			// Texts made over bytes that change later: what was kept of them would too.
			prefix, row, col, value := []byte("prefix"), []byte("some row"), []byte("column"), []byte("a value")
			d := disk.New(1 << 16)
			s := mustOpen(t, d, over(prefix), flush)
			l := []api.Cell{{Row: over(row), Col: over(col), Version: 1, Value: over(value)}}
			must(t, apply(s, l), api.OK)
			prefix[0], row[0], col[0], value[0] = '#', '#', '#', '#'
			l[0] = api.Cell{Row: "other", Col: "x", Version: 9}
			want := api.Cell{Row: "some row", Col: "column", Version: 1, Value: "a value"}
			mustGet(t, s, want)
			must(t, s.Flush(), api.OK)
			must(t, s.Apply(cellsOf("zz x 1, zz y 1")), api.OK)
			mustGet(t, s, want)
			must(t, s.Sync(), api.OK)
			for _, name := range d.List("") {
				if !strings.HasPrefix(name, "prefix") {
					t.Fatalf("%q", name)
				}
			}
			mustGet(t, mustOpen(t, d, "prefix", flush), want)
		}
	}
}

func TestWhatIsHandedInIsNotChanged(t *testing.T) { // R5: nor the room behind its ends
	room := cellsOf("b x 2 w, a x 3 gone, b x 1 v, a x 1 u, - x 1, c x 1 guard, c x 2 guard")
	want := slices.Clone(room)
	l := room[:5]
	for _, flush := range []int{1, 3, 100} {
		s := mustOpen(t, disk.New(1<<16), "p", flush)
		for range 5 {
			must(t, s.Apply(l), api.OK)
			must(t, s.Flush(), api.OK)
			s.Compact()
			must(t, s.Replace(l), api.OK)
			s.Scan(api.Range{Low: l[1].Row})
			if !slices.Equal(room, want) {
				t.Fatalf("%s", textOf(room))
			}
		}
		mustOpen(t, disk.New(20), "p", flush).Apply(l)
		mustOpen(t, disk.New(20), "p", flush).Replace(l)
		if !slices.Equal(room, want) {
			t.Fatalf("%s", textOf(room))
		}
	}
}

func shares(a, b string) bool {
	place := func(s string) uintptr { return uintptr(unsafe.Pointer(unsafe.StringData(s))) }
	return len(a) > 0 && len(b) > 0 && place(a) < place(b)+uintptr(len(b)) && place(b) < place(a)+uintptr(len(a))
}

func TestAnswersAreNewMemory(t *testing.T) { // R5
	d := laid(t, 1<<16, "p", "3: bbbb xxxx 1 vvvv, cccc xxxx 1 vvvv | 2: aaaa xxxx 1 vvvv, aaaa yyyy 1 vvvv")
	p := openBoth(t, d, "p", 100)
	p.apply(t, "dddd xxxx 1 vvvv, dddd yyyy 1 vvvv")
	var texts []string
	for range 2 {
		l, e := p.s.Scan(api.Range{})
		must(t, e, api.OK)
		for _, c := range l {
			texts = append(texts, c.Row, c.Col, c.Value)
			one, is, e := p.s.Get(c.Row, c.Col)
			if !is || e != api.OK {
				t.Fatalf("%v, %d", is, e)
			}
			texts = append(texts, one.Row, one.Col, one.Value)
		}
	}
	for _, f := range filesOf(p.s.state) {
		texts = append(texts, f.Low, f.High)
	}
	for i, a := range texts {
		for j, b := range texts {
			if i < j && shares(a, b) {
				t.Fatalf("%d and %d share %q", i, j, a)
			}
		}
	}
	// Lists that are written over, and behind their ends, change nothing.
	one, _ := p.s.Scan(api.Range{})
	was, _ := p.s.Scan(api.Range{})
	for i := range one[:cap(one)] {
		one[:cap(one)][i] = api.Cell{Row: "#"}
	}
	counts := p.s.Levels()
	for i := range counts[:cap(counts)] {
		counts[:cap(counts)][i] = 77
	}
	mustHave(t, p.s, 1, 1)
	if two, _ := p.s.Scan(api.Range{}); !slices.Equal(two, was) {
		t.Fatalf("%v", two)
	}
}

func TestTheDiskIsKept(t *testing.T) { // ahead of P14.1
	d := disk.New(100)
	s := mustOpen(t, d, "p", 100)
	must(t, d.Append("other", strings.Repeat("o", 90)), api.OK)
	must(t, s.Apply(cellsOf("a x 1")), api.ErrFull)
	s = mustOpen(t, d, "p", 100)
	must(t, d.Remove("other"), api.OK)
	must(t, s.Apply(cellsOf("a x 1")), api.OK)
	if l := d.List(""); !slices.Equal(l, []string{logName("p", 1)}) {
		t.Fatalf("%q", l)
	}
}

func TestTheMemtableHasShortcuts(t *testing.T) { // 'Ways': heights are told one cell like the other
	s := mustOpen(t, disk.New(1<<24), "p", 1024)
	for i := range 1000 {
		must(t, s.Apply(cellsOf(fmt.Sprintf("r%03d x 1", i*7%1000))), api.OK)
	}
	heights := s.memtable.Heights()
	for n, count := range heights {
		if want := 1000 >> n; count != want {
			t.Errorf("%d cells are higher than %d, not %d", count, n, want)
		}
	}
}

func TestManyCellsInTime(t *testing.T) { // R1
	for _, flush := range []int{4, 64, 1024} {
		s := mustOpen(t, disk.New(1<<30), "p", flush)
		for i := range 4000 {
			if e := s.Apply([]api.Cell{{Row: fmt.Sprintf("%05d", i*7919%4000), Col: "x", Version: 1}}); e != api.OK {
				t.Fatal(e)
			}
		}
		if l, e := s.Scan(api.Range{}); e != api.OK || len(l) != 4000 {
			t.Fatalf("%d cells, %d", len(l), e)
		}
	}
	// One batch of very many, rising and falling.
	for _, step := range []int{1, -1} {
		var l []api.Cell
		for i := range 32000 {
			l = append(l, api.Cell{Row: fmt.Sprintf("%05d", 50000+step*i), Col: "x", Version: 1})
		}
		s := mustOpen(t, disk.New(1<<30), "p", 1024)
		must(t, s.Apply(l), api.OK)
		for range 20 {
			must(t, s.Flush(), api.OK)
			s.Compact()
		}
	}
}

func FuzzStoresDoAsTheWordsSay(f *testing.F) { // P14.1 to P14.8, W8, R1
	f.Add([]byte{0, 0, 0, 12, 4, 1, 1, 1, 1, 1, 12, 3, 2, 2, 2, 2, 2, 4, 9, 10, 7, 1, 5})
	f.Add([]byte("cells that come in batches are kept in a log and in memory, laid down in sorted files from time to time, and these merged, level by level"))
	f.Add([]byte{3, 3, 40, 19, 4, 1, 1, 1, 19, 4, 1, 1, 2, 2, 2, 0, 3, 9, 4, 5, 6, 7, 8})
	f.Fuzz(func(t *testing.T, told []byte) {
		told = told[:min(len(told), 1<<10)] // the slow store is too slow for more
		next := func(n int) int {
			if len(told) == 0 {
				return 0
			}
			v := int(told[0]) % n
			told = told[1:]
			return v
		}
		w := anyWorld(t, next)
		for len(told) > 0 {
			w.step(t)
		}
	})
}
