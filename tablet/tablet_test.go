package tablet

import (
	"encoding/binary"
	"fmt"
	"maps"
	"math"
	"math/rand"
	"slices"
	"strings"
	"testing"
	"unsafe"

	"acreage/api"
	"acreage/cells"
	"acreage/disk"
	"acreage/keys"
	"acreage/lsm"
	"acreage/model"
	"acreage/ops"
	"acreage/wal"
)

const two40 = uint64(1099511627776)

func long(n int) string { return strings.Repeat("x", n) }

// short keeps what a failure tells readable.
func short(x any) string {
	s := fmt.Sprintf("%+q", x)
	return s[:min(len(s), 1500)]
}

func must(t *testing.T, got, want api.Errno) {
	t.Helper()
	if got != want {
		t.Fatalf("answered %d, not %d", got, want)
	}
}

// Bytes as chapters 1, 16 and 17, and this one, word them.

func numbers(l ...uint64) string {
	var b []byte
	for _, v := range l {
		b = binary.AppendUvarint(b, v)
	}
	return string(b)
}

func texts(l ...string) string {
	out := ""
	for _, s := range l {
		out += numbers(uint64(len(s))) + s
	}
	return out
}

func bit(is bool) uint64 {
	if is {
		return 1
	}
	return 0
}

func sessionBytes(seq uint64, r api.Result) string {
	return numbers(seq, uint64(r.Err), bit(r.Found)) + texts(r.Row, r.Value) + numbers(r.Version)
}

// parse reads numbers and texts in whatever form; what it read is whole only if
// it is laid as the same bytes.
type parse struct{ rest string }

func (p *parse) number() uint64 {
	v, n := binary.Uvarint([]byte(p.rest[:min(len(p.rest), 10)]))
	p.rest = p.rest[max(n, 0):]
	return v
}

func (p *parse) text() string {
	n := int(min(p.number(), uint64(len(p.rest))))
	one := p.rest[:n]
	p.rest = p.rest[n:]
	return one
}

func slowSession(s string) (seq uint64, r api.Result, is bool) {
	p := &parse{s}
	seq = p.number()
	r.Err = api.Errno(p.number())
	r.Found = p.number() == 1
	r.Row, r.Value, r.Version = p.text(), p.text(), p.number()
	return seq, r, s == sessionBytes(seq, r) && len(s) <= 65536 && seq >= 1 && seq <= two40 &&
		r.Err >= 0 && r.Err <= 15 && len(r.Row) <= 32 && r.Version <= two40
}

func slowRange(r api.Range) bool {
	return len(r.Low) <= 24 && len(r.High) <= 24 && (r.High == "" || r.High > r.Low)
}

func slowHas(r api.Range, key string) bool { return key >= r.Low && (r.High == "" || key < r.High) }

type place struct{ row, col string }

// newest takes of each place the cell with the greatest Version, of several the
// first one, in order.
func newest(l []api.Cell) []api.Cell {
	best := map[place]api.Cell{}
	for _, c := range l {
		if was, is := best[place{c.Row, c.Col}]; !is || c.Version > was.Version {
			best[place{c.Row, c.Col}] = c
		}
	}
	return slices.SortedFunc(maps.Values(best), func(a, b api.Cell) int {
		if d := strings.Compare(a.Row, b.Row); d != 0 {
			return d
		}
		return strings.Compare(a.Col, b.Col)
	})
}

// slowCounted says whether each cell of a row has a count that reaches it.
func slowCounted(l []api.Cell) bool {
	for _, c := range l {
		if c.Row != "" && !slices.ContainsFunc(l, func(n api.Cell) bool {
			return n.Row == c.Row && n.Col == "" && n.Version >= c.Version
		}) {
			return false
		}
	}
	return true
}

// fixed are the four own cells that each tablet has.
func fixed(t api.Tablet, applied, proc uint64, step int, version uint64) []api.Cell {
	return []api.Cell{
		{Col: "applied", Version: version, Value: numbers(applied)},
		{Col: "done", Version: version, Value: numbers(proc, uint64(step))},
		{Col: "epoch", Version: version, Value: numbers(t.Epoch, bit(t.Frozen))},
		{Col: "range", Version: version, Value: texts(t.Range.Low, t.Range.High)},
	}
}

var clients = []string{"s0", "s1", "s2", "s3"}

func slowCells(t api.Tablet, index uint64, rows []api.Cell) ([]api.Cell, api.Errno) {
	if !slowRange(t.Range) || t.Epoch > two40 || index < 1 || index > two40 {
		return nil, 2
	}
	for _, c := range rows {
		_, _, is := slowSession(c.Value)
		switch {
		case keys.Cell(c) != api.OK, c.Gone:
			return nil, 2
		case c.Row == "" && !(slices.Contains(clients, c.Col) && is), c.Row != "" && !slowHas(t.Range, c.Row):
			return nil, 2
		}
	}
	list := newest(rows)
	if !slowCounted(list) {
		return nil, 2
	}
	for i := range list {
		if list[i].Row == "" {
			list[i].Version = index
		}
	}
	return append(fixed(t, index, 0, 0, index), list...), 0
}

// said is what a client was answered last.
type said struct {
	seq uint64
	r   api.Result
}

// slow is a machine as the chapter words it.
type slow struct {
	t        api.Tablet
	applied  uint64
	proc     uint64
	step     int
	said     map[int]said      // by clients
	versions map[string]uint64 // of own cells, by columns
	rows     map[place]api.Cell
}

// slowOpen is a machine of a store that has just these cells.
func slowOpen(l []api.Cell) (*slow, bool) {
	s := &slow{said: map[int]said{}, versions: map[string]uint64{}, rows: map[place]api.Cell{}}
	var step uint64
	for _, c := range l {
		p := &parse{c.Value}
		if c.Row != "" {
			s.rows[place{c.Row, c.Col}] = c
			continue
		}
		s.versions[c.Col] = c.Version
		switch c.Col {
		case "range":
			s.t.Range = api.Range{Low: p.text(), High: p.text()}
		case "epoch":
			s.t.Epoch, s.t.Frozen = p.number(), p.number() == 1
		case "applied":
			s.applied = p.number()
		case "done":
			s.proc, step = p.number(), p.number()
			s.step = int(min(step, 1000))
		default:
			seq, r, is := slowSession(c.Value)
			client := slices.Index(clients, c.Col)
			if client < 0 || !is {
				return nil, false
			}
			s.said[client] = said{seq, r}
		}
	}
	for _, c := range l {
		if c.Row == "" && c.Version > s.applied || c.Row != "" && !slowHas(s.t.Range, c.Row) {
			return nil, false
		}
	}
	good := slowRange(s.t.Range) && s.t.Epoch <= two40 && s.applied >= 1 && s.applied <= two40 &&
		s.proc <= two40 && s.step <= 100 && slowCounted(l)
	// Laid anew they are the same: none is missing, or has other bytes.
	return s, good && slices.Equal(s.all(), newest(l))
}

func slowInstall(l []api.Cell) (*slow, bool) {
	for _, c := range l {
		if keys.Cell(c) != api.OK || c.Gone {
			return nil, false
		}
	}
	return slowOpen(newest(l))
}

// all are the cells of the store.
func (s *slow) all() []api.Cell {
	l := slices.Collect(maps.Values(s.rows))
	for _, c := range fixed(s.t, s.applied, s.proc, s.step, 0) {
		c.Version = s.versions[c.Col]
		l = append(l, c)
	}
	for client, a := range s.said {
		l = append(l, api.Cell{Col: clients[client], Version: s.versions[clients[client]], Value: sessionBytes(a.seq, a.r)})
	}
	return newest(l)
}

func (s *slow) clone() *slow {
	c := *s
	c.said, c.versions, c.rows = maps.Clone(s.said), maps.Clone(s.versions), maps.Clone(s.rows)
	return &c
}

// looked is all that Look answers.
type looked struct {
	r     api.Result
	again bool
	e     api.Errno
}

func (s *slow) look(client int, seq uint64) looked {
	last := s.said[client] // of a client that was answered nothing 0
	switch {
	case client < 0 || client > 3 || seq < 1 || seq > two40:
		return looked{e: 2}
	case seq == last.seq:
		return looked{r: last.r, again: true}
	case seq < last.seq:
		return looked{e: 12}
	}
	return looked{}
}

func (s *slow) ready(epoch uint64, o api.Op) api.Errno {
	switch {
	case model.Check(o) != api.OK:
		return 2
	case epoch != s.t.Epoch:
		return 9
	case s.t.Frozen:
		return 10
	case o.Kind != api.OpSeek && !slowHas(s.t.Range, o.Row):
		return 8
	}
	return 0
}

// operate is an operation on the rows, as chapter 15 words it.
func (s *slow) operate(o api.Op) api.Result {
	if o.Kind == api.OpSeek {
		for _, c := range newest(slices.Collect(maps.Values(s.rows))) {
			if c.Row >= o.Row && c.Col == o.Col && slowHas(s.t.Range, c.Row) {
				return api.Result{Found: true, Row: c.Row, Value: c.Value, Version: c.Version}
			}
		}
		return api.Result{}
	}
	at, count := place{o.Row, o.Col}, place{row: o.Row}
	c, is := s.rows[at]
	switch {
	case o.Kind == api.OpGet:
		return api.Result{Found: is, Value: c.Value, Version: c.Version}
	case o.Kind == api.OpDel && !is:
		return api.Result{}
	case o.Kind == api.OpCheck && (is != o.Has || is && c.Value != o.Expect):
		return api.Result{Value: c.Value, Version: c.Version}
	}
	n := s.rows[count].Version + 1
	if n > two40 {
		return api.Result{Err: 3}
	}
	s.rows[count] = api.Cell{Row: o.Row, Version: n}
	s.rows[at] = api.Cell{Row: o.Row, Col: o.Col, Version: n, Value: o.Value}
	if o.Kind == api.OpDel {
		delete(s.rows, at)
	}
	return api.Result{Found: o.Kind != api.OpPut, Version: n}
}

func (s *slow) row(index uint64, c api.Cmd) api.Result {
	last := s.look(c.Client, c.Seq)
	if last.again {
		return last.r
	}
	if last.e != api.OK {
		return api.Result{Err: last.e}
	}
	if e := s.ready(c.Epoch, c.Op); e != api.OK {
		return api.Result{Err: e}
	}
	next := s.clone()
	r := next.operate(c.Op)
	if len(sessionBytes(c.Seq, r)) > 65536 {
		return api.Result{Err: 3}
	}
	s.rows = next.rows
	s.said[c.Client] = said{c.Seq, r}
	s.versions[clients[c.Client]] = index
	return r
}

// stepOf does a boss's step that is behind what is done, and tells whether it is
// done now.
func (s *slow) stepOf(index uint64, c api.Cmd) (api.Errno, bool) {
	switch c.Kind {
	case api.CmdFreeze:
		if c.Epoch != s.t.Epoch {
			return 9, false
		}
		s.t.Frozen = true
	case api.CmdThaw:
		switch {
		case !s.t.Frozen:
			return 6, false
		case c.Epoch != s.t.Epoch+1:
			return 9, false
		}
		s.t.Epoch, s.t.Frozen = c.Epoch, false
	case api.CmdSplit:
		switch {
		case !s.t.Frozen:
			return 6, false
		case c.Epoch != s.t.Epoch || s.t.Epoch+1 > two40:
			return 9, false
		case !slowHas(s.t.Range, c.Key) || c.Key == s.t.Range.Low:
			return 8, false
		}
		s.t = api.Tablet{Range: api.Range{Low: s.t.Range.Low, High: c.Key}, Epoch: s.t.Epoch + 1}
		maps.DeleteFunc(s.rows, func(p place, _ api.Cell) bool { return p.row >= c.Key })
		s.versions["range"] = index
	case api.CmdMeta:
		n := s.rows[place{row: c.Key}].Version + 1
		switch {
		case !slowHas(s.t.Range, c.Key):
			return 8, false
		case n > two40:
			return 3, false
		}
		s.rows[place{c.Key, ""}] = api.Cell{Row: c.Key, Version: n}
		s.rows[place{c.Key, "loc"}] = api.Cell{Row: c.Key, Col: "loc", Version: n, Value: c.Value}
		return 0, true
	}
	s.versions["epoch"] = index
	return 0, true
}

func (s *slow) apply(index uint64, c api.Cmd) (api.Result, api.Errno) {
	if ops.Cmd(c) != api.OK || index != s.applied+1 || index > two40 {
		return api.Result{}, 2
	}
	s.applied, s.versions["applied"] = index, index
	isBehind := c.Proc > s.proc || c.Proc == s.proc && c.Step > s.step
	switch {
	case c.Kind == api.CmdRow:
		return s.row(index, c), 0
	case isBehind && slices.Contains([]int{api.CmdFreeze, api.CmdThaw, api.CmdSplit, api.CmdMeta}, c.Kind):
		e, is := s.stepOf(index, c)
		if is {
			s.proc, s.step, s.versions["done"] = c.Proc, c.Step, index
		}
		return api.Result{Err: e}, 0
	}
	return api.Result{}, 0
}

func (s *slow) birth(index uint64, c api.Cmd) (api.Born, bool) {
	behind := s.clone()
	if _, e := behind.apply(index, c); e != api.OK || behind.t.Range == s.t.Range {
		return api.Born{}, false
	}
	right := api.Range{Low: c.Key, High: s.t.Range.High}
	var l []api.Cell
	for _, c := range s.all() {
		if c.Row == "" && slices.Contains(clients, c.Col) || c.Row != "" && slowHas(right, c.Row) {
			l = append(l, c)
		}
	}
	l, e := slowCells(api.Tablet{Range: right, Epoch: s.t.Epoch + 1}, 1, l)
	if e != api.OK {
		panic(e)
	}
	return api.Born{Group: c.Group, Cells: l}, true
}

// pair is a machine, and a slow one that is to be the same.
type pair struct {
	d     *disk.Disk
	flush int
	m     *Machine
	s     *slow
}

func openStore(t *testing.T, d *disk.Disk, flush int) *lsm.Store {
	t.Helper()
	s, e := lsm.Open(d, "p", flush)
	must(t, e, api.OK)
	return s
}

// pairOf is a pair over a store that has just these cells.
func pairOf(t *testing.T, flush int, l []api.Cell) pair {
	t.Helper()
	p := pair{d: disk.New(1 << 22), flush: flush}
	s := openStore(t, p.d, flush)
	must(t, s.Replace(l), api.OK)
	return p.opened(t, s)
}

func (p pair) opened(t *testing.T, s *lsm.Store) pair {
	t.Helper()
	m, e := Open(s)
	must(t, e, api.OK)
	l, e := s.Scan(api.Range{})
	must(t, e, api.OK)
	x, is := slowOpen(l)
	if !is {
		t.Fatalf("no tablet's: %s", short(l))
	}
	p.m, p.s = m, x
	p.same(t)
	return p
}

// tabletOf is a pair of a tablet, of the index 1.
func tabletOf(t *testing.T, flush int, x api.Tablet, rows ...api.Cell) pair {
	t.Helper()
	l, e := slowCells(x, 1, rows)
	must(t, e, api.OK)
	return pairOf(t, flush, l)
}

// sameAs has a machine be as a slow one is.
func sameAs(t *testing.T, m *Machine, s *slow) {
	t.Helper()
	l, e := m.Snapshot()
	if want := s.all(); e != api.OK || !slices.Equal(l, want) {
		t.Fatalf("%d, %s\nnot %s", e, short(l), short(want))
	}
	proc, step := m.Done()
	if m.Tablet() != s.t || m.Applied() != s.applied || proc != s.proc || step != s.step {
		t.Fatalf("%+v, %d, %d %d; not %+v, %d, %d %d", m.Tablet(), m.Applied(), proc, step, s.t, s.applied, s.proc, s.step)
	}
	for client := -1; client <= 4; client++ {
		seq := s.said[client].seq
		for _, seq := range []uint64{0, 1, seq - 1, seq, seq + 1, two40, two40 + 1} {
			r, again, e := m.Look(client, seq)
			if got, want := (looked{r, again, e}), s.look(client, seq); got != want {
				t.Fatalf("Look(%d, %d): %s, not %s", client, seq, short(got), short(want))
			}
		}
	}
}

func (p pair) same(t *testing.T) {
	t.Helper()
	sameAs(t, p.m, p.s)
}

// try holds Birth and Apply of a command against the words.
func (p pair) try(t *testing.T, index uint64, c api.Cmd) (api.Result, api.Errno) {
	t.Helper()
	was := lies(p.d)
	b, is := p.m.Birth(index, c)
	want, wantIs := p.s.birth(index, c)
	if is != wantIs || b.Group != want.Group || len(b.Members) > 0 || !slices.Equal(b.Cells, want.Cells) {
		t.Fatalf("Birth(%d, %s): %s, %v\nnot %s, %v", index, short(c), short(b), is, short(want), wantIs)
	}
	if lies(p.d) != was {
		t.Fatalf("Birth(%d, %s) changed the disk", index, short(c))
	}
	r, e := p.m.Apply(index, c)
	wantR, wantE := p.s.apply(index, c)
	if r != wantR || e != wantE {
		t.Fatalf("Apply(%d, %s): %s, %d; not %s, %d", index, short(c), short(r), e, short(wantR), wantE)
	}
	if e != api.OK && lies(p.d) != was {
		t.Fatalf("Apply(%d, %s): %d, and the disk is changed", index, short(c), e)
	}
	p.same(t)
	return r, e
}

// next has the next command done, and tells its result.
func (p pair) next(t *testing.T, c api.Cmd) api.Result {
	t.Helper()
	r, e := p.try(t, p.s.applied+1, c)
	must(t, e, api.OK)
	return r
}

// gets has the next command done and answered just so.
func (p pair) gets(t *testing.T, c api.Cmd, want api.Result) {
	t.Helper()
	if r := p.next(t, c); r != want {
		t.Fatalf("%s: %s, not %s", short(c), short(r), short(want))
	}
}

// changesNothing has a command be answered just so, and change Applied alone.
func (p pair) changesNothing(t *testing.T, c api.Cmd, want api.Result) {
	t.Helper()
	was, err := p.m.Snapshot()
	must(t, err, api.OK)
	p.gets(t, c, want)
	now, err := p.m.Snapshot()
	must(t, err, api.OK)
	if was[0].Col != "applied" || now[0].Col != "applied" || !slices.Equal(was[1:], now[1:]) {
		t.Fatalf("%s: of %s became %s", short(c), short(was), short(now))
	}
}

// anew is the pair opened anew, as its disk stands.
func (p pair) anew(t *testing.T) pair {
	t.Helper()
	other := pair{d: p.d, flush: p.flush}.opened(t, openStore(t, p.d, p.flush))
	if !slices.Equal(other.s.all(), p.s.all()) {
		t.Fatalf("opened anew: %s, not %s", short(other.s.all()), short(p.s.all()))
	}
	return other
}

// lies is all that a disk has.
func lies(d *disk.Disk) string {
	var out strings.Builder
	for _, name := range d.List("") {
		data, _ := d.Read(name)
		fmt.Fprint(&out, name, " ", d.Synced(name), " ", len(data), " ", data, "\n")
	}
	return out.String()
}

func cell(row, col string, version uint64, value string) api.Cell {
	return api.Cell{Row: row, Col: col, Version: version, Value: value}
}

func putOp(row, value string) api.Op {
	return api.Op{Kind: api.OpPut, Row: row, Col: "x", Value: value}
}

func getOp(row string) api.Op { return api.Op{Kind: api.OpGet, Row: row, Col: "x"} }

func delOp(row string) api.Op { return api.Op{Kind: api.OpDel, Row: row, Col: "x"} }

func seekOp(row string) api.Op { return api.Op{Kind: api.OpSeek, Row: row, Col: "x"} }

func checkOp(row string, has bool, expect, value string) api.Op {
	return api.Op{Kind: api.OpCheck, Row: row, Col: "x", Has: has, Expect: expect, Value: value}
}

func row(client int, seq, epoch uint64, o api.Op) api.Cmd {
	return api.Cmd{Kind: api.CmdRow, Client: client, Seq: seq, Epoch: epoch, Op: o}
}

func freeze(proc uint64, step int, epoch uint64) api.Cmd {
	return api.Cmd{Kind: api.CmdFreeze, Proc: proc, Step: step, Epoch: epoch}
}

func thaw(proc uint64, step int, epoch uint64) api.Cmd {
	return api.Cmd{Kind: api.CmdThaw, Proc: proc, Step: step, Epoch: epoch}
}

func split(proc uint64, step int, epoch uint64, key string, group int) api.Cmd {
	return api.Cmd{Kind: api.CmdSplit, Proc: proc, Step: step, Epoch: epoch, Key: key, Group: group}
}

func metaRow(proc uint64, step int, key, value string) api.Cmd {
	return api.Cmd{Kind: api.CmdMeta, Proc: proc, Step: step, Key: key, Value: value}
}

func refusal(e api.Errno) api.Result { return api.Result{Err: e} }

func TestTheChaptersExamples(t *testing.T) { // P18.1, P18.2, P18.5, P18.6, and the fifth and sixth ones of the whole
	all := api.Tablet{Epoch: 1}
	l, e := Cells(all, 1, nil)
	must(t, e, api.OK)
	for i, col := range []string{"applied", "done", "epoch", "range"} {
		if len(l) != 4 || l[i].Row != "" || l[i].Col != col || l[i].Version != 1 {
			t.Fatal(short(l))
		}
	}
	s := openStore(t, disk.New(1<<20), 4)
	must(t, s.Replace(l), api.OK)
	m, e := Open(s)
	must(t, e, api.OK)
	if m.Tablet() != all || m.Applied() != 1 {
		t.Fatalf("%+v, %d", m.Tablet(), m.Applied())
	}
	answers := func(index uint64, c api.Cmd, want api.Result, wantE api.Errno) {
		t.Helper()
		if r, e := m.Apply(index, c); r != want || e != wantE {
			t.Fatalf("Apply(%d): %+v, %d", index, r, e)
		}
	}
	put := row(0, 1, 1, putOp("m", "v"))
	answers(2, put, api.Result{Version: 1}, api.OK)
	answers(3, put, api.Result{Version: 1}, api.OK)
	answers(4, row(0, 2, 1, getOp("m")), api.Result{Found: true, Value: "v", Version: 1}, api.OK)
	answers(5, row(0, 3, 2, getOp("m")), refusal(api.ErrEpoch), api.OK)
	answers(7, row(0, 3, 1, getOp("m")), api.Result{}, api.ErrArg)
	answers(6, freeze(1, 0, 1), api.Result{}, api.OK)
	answers(7, row(0, 3, 1, getOp("m")), refusal(api.ErrFrozen), api.OK)
	at := split(1, 1, 1, "k", 4)
	b, is := m.Birth(8, at)
	want := append(fixed(api.Tablet{Range: api.Range{Low: "k"}, Epoch: 2}, 1, 0, 0, 1),
		cell("", "s0", 1, sessionBytes(2, api.Result{Found: true, Value: "v", Version: 1})),
		cell("m", "", 1, ""), cell("m", "x", 1, "v"))
	if !is || b.Group != 4 || len(b.Members) > 0 || !slices.Equal(b.Cells, want) {
		t.Fatalf("%s, %v", short(b), is)
	}
	answers(8, at, api.Result{}, api.OK)
	left := api.Tablet{Range: api.Range{High: "k"}, Epoch: 2}
	if m.Tablet() != left {
		t.Fatalf("%+v", m.Tablet())
	}
	answers(9, at, api.Result{}, api.OK)
	if m.Tablet() != left || m.Applied() != 9 {
		t.Fatalf("%+v, %d", m.Tablet(), m.Applied())
	}
}

func TestTheCellsOfATablet(t *testing.T) { // P18.1: written down by hand
	x := api.Tablet{Range: api.Range{Low: "b", High: "k"}, Epoch: 300, Frozen: true}
	one := "\x05\x00\x00\x00\x00\x00" // the Seq 5, and a zero result
	l, e := Cells(x, 7, []api.Cell{
		cell("", "s3", 9, one),
		cell("j", "y", 2, "w"),
		cell("j", "", 2, ""),
		cell("b", "", 1, ""),
		cell("j", "y", 1, "older"),
		cell("", "s0", 1, "\x04\x00\x00\x00\x00\x00"),
		cell("b", "", 3, "the count"),
		cell("", "s0", 2, one),
	})
	must(t, e, api.OK)
	if want := []api.Cell{
		cell("", "applied", 7, "\x07"),
		cell("", "done", 7, "\x00\x00"),
		cell("", "epoch", 7, "\xac\x02\x01"),
		cell("", "range", 7, "\x01b\x01k"),
		cell("", "s0", 7, one),
		cell("", "s3", 7, one),
		cell("b", "", 3, "the count"),
		cell("j", "", 2, ""),
		cell("j", "y", 2, "w"),
	}; !slices.Equal(l, want) {
		t.Fatal(short(l))
	}
	l, e = Cells(api.Tablet{}, two40, nil)
	must(t, e, api.OK)
	if want := []api.Cell{
		cell("", "applied", two40, "\x80\x80\x80\x80\x80\x20"),
		cell("", "done", two40, "\x00\x00"),
		cell("", "epoch", two40, "\x00\x00"),
		cell("", "range", two40, "\x00\x00"),
	}; !slices.Equal(l, want) {
		t.Fatal(short(l))
	}
}

// Ranges that may be, and such that may not.
var (
	someRanges = []api.Range{
		{}, {Low: "b"}, {High: "k"}, {Low: "b", High: "k"}, {Low: "b", High: "b\x00"},
		{Low: "\x00"}, {Low: "\xff", High: "\xff\xff"}, {Low: long(24)}, {High: long(24)}, {Low: long(23), High: long(24)},
	}
	noRanges = []api.Range{
		{Low: "b", High: "b"}, {Low: "k", High: "b"}, {Low: long(25)}, {High: long(25)}, {Low: "b\x00", High: "b"},
	}
)

func TestTabletsThatMayBe(t *testing.T) { // P18.1, P18.2
	for _, r := range someRanges {
		for _, epoch := range []uint64{0, 1, 127, 128, two40 - 1, two40} {
			for _, index := range []uint64{1, 2, 300, two40 - 1, two40} {
				x := api.Tablet{Range: r, Epoch: epoch, Frozen: index%2 == 0}
				l, e := Cells(x, index, nil)
				must(t, e, api.OK)
				if want := fixed(x, index, 0, 0, index); !slices.Equal(l, want) {
					t.Fatalf("%s, not %s", short(l), short(want))
				}
				p := pairOf(t, 3, l)
				if p.m.Tablet() != x || p.m.Applied() != index {
					t.Fatalf("%+v, %d", p.m.Tablet(), p.m.Applied())
				}
			}
		}
	}
}

func TestTabletsThatMayNotBe(t *testing.T) { // P18.1, R2
	refuses := func(x api.Tablet, index uint64) {
		t.Helper()
		if l, e := Cells(x, index, nil); len(l) > 0 || e != api.ErrArg {
			t.Errorf("Cells(%+v, %d): %+v, %d", x, index, l, e)
		}
	}
	for _, r := range noRanges {
		refuses(api.Tablet{Range: r, Epoch: 1}, 1)
	}
	for _, n := range []uint64{two40 + 1, 1 << 41, 1 << 63, math.MaxUint64} {
		refuses(api.Tablet{Epoch: n}, 1)
		refuses(api.Tablet{Epoch: 1}, n)
	}
	refuses(api.Tablet{Epoch: 1}, 0)
}

// Cells beside those that each tablet has, of the range b to k: such that may be
// there, and such that may not.
var (
	goodRows = [][]api.Cell{
		nil,
		{cell("b", "", 1, "")},
		{cell("j\xff", "", 1, "")},
		{cell("b", "", two40, ""), cell("b", "x", two40, "v"), cell("b", long(16), 1, "")},
		{cell("c"+long(31), "", 3, ""), cell("c"+long(31), "x", 3, "")}, // a stored key, not a user's
		{cell("c", "", 2, "v"), cell("c", "x", 1, ""), cell("c", "y", 2, long(3000))},
		{cell("", "s0", 1, sessionBytes(1, api.Result{}))},
		{cell("", "s3", 1, sessionBytes(two40, api.Result{Err: 15, Found: true, Row: long(32), Value: long(300), Version: two40}))},
		{
			cell("", "s1", 1, sessionBytes(3, api.Result{Err: api.ErrRange})), cell("", "s2", 1, sessionBytes(2, api.Result{Version: 7})),
			cell("b", "", 1, ""), cell("b", "x", 1, "v"), cell("d", "", 5, ""),
		},
	}
	badRows = [][]api.Cell{
		{cell("a\xff", "", 1, "")}, // outside the range
		{cell("k", "", 1, "")},
		{cell("k\x00", "", 1, "")},
		{cell("", "s4", 1, sessionBytes(1, api.Result{}))}, // columns of no client
		{cell("", "s", 1, sessionBytes(1, api.Result{}))},
		{cell("", "s00", 1, sessionBytes(1, api.Result{}))},
		{cell("", "S0", 1, sessionBytes(1, api.Result{}))},
		{cell("", "x", 1, "v")},
		{cell("", "loc", 1, "v")},
		{cell("", "s0", 1, "")}, // no session's bytes
		{cell("", "s0", 1, "x")},
		{cell("", "s0", 1, sessionBytes(1, api.Result{})[:5])},
		{cell("", "s0", 1, sessionBytes(1, api.Result{})+"\x00")},
		{cell("", "s1", 1, sessionBytes(0, api.Result{}))},
		{cell("", "s1", 1, sessionBytes(two40+1, api.Result{}))},
		{cell("", "s2", 1, sessionBytes(1, api.Result{Err: 16}))},
		{cell("", "s3", 1, sessionBytes(1, api.Result{Row: long(33)}))},
		{cell("", "s3", 1, "\x81\x00\x00\x00\x00\x00\x00")}, // the Seq in one byte more than it takes
		{cell("b", "x", 1, "")},                             // not counted
		{cell("b", "", 1, ""), cell("b", "x", 2, "")},
		{cell("b", "", 1, ""), cell("c", "x", 1, "")},
		{cell("b", "", 1, ""), cell("bb", "x", 1, "")},
		{cell("b", "x", 1, ""), cell("c", "", 1, "")},
		{cell("b", "", two40-1, ""), cell("b", "x", 1, ""), cell("b", "y", two40, "")},
	}
	// Such that no store tells.
	noRows = [][]api.Cell{
		{{Row: "b", Version: 1, Gone: true}},
		{cell("b", "", 1, ""), {Row: "b", Col: "x", Version: 1, Gone: true}},
		{{Col: "s0", Version: 1, Gone: true}},
		{cell("b", "", 0, "")},
		{cell("b", "", 1, ""), cell("b", "x", 0, "")},
		{cell("", "s0", 0, sessionBytes(1, api.Result{}))},
		{cell("b", "", two40+1, "")},
		{cell("b", "", 1, ""), cell("b", long(17), 1, "")},
		{cell("c"+long(32), "", 1, "")},
		{cell("", "", 1, "")},
		{cell("b", "", 1, long(65537))},
		{{Row: "b", Version: 1, Gone: true, Value: "v"}},
		// Though it is not the newest one of its place.
		{cell("b", "", 2, ""), {Row: "b", Version: 1, Gone: true}},
		{cell("b", "", 2, ""), cell("b", "", 0, "")},
	}
)

func TestWhichRowsATabletMayHave(t *testing.T) { // P18.1
	x := api.Tablet{Range: api.Range{Low: "b", High: "k"}, Epoch: 4}
	for _, rows := range slices.Concat(goodRows, badRows, noRows) {
		l, e := Cells(x, 5, rows)
		want, wantE := slowCells(x, 5, rows)
		if !slices.Equal(l, want) || e != wantE {
			t.Errorf("Cells of %s: %s, %d; not %s, %d", short(rows), short(l), e, short(want), wantE)
		}
	}
	for _, rows := range slices.Concat(badRows, noRows) {
		if l, e := Cells(x, 5, rows); len(l) > 0 || e != api.ErrArg {
			t.Errorf("Cells of %s: %s, %d", short(rows), short(l), e)
		}
		// A whole row beside them makes nothing good.
		with := append([]api.Cell{cell("d", "", 9, ""), cell("d", "x", 9, "")}, rows...)
		if l, e := Cells(x, 5, with); len(l) > 0 || e != api.ErrArg {
			t.Errorf("Cells of %s: %s, %d", short(with), short(l), e)
		}
	}
	for _, rows := range goodRows {
		_, e := Cells(x, 5, rows)
		must(t, e, api.OK)
	}
}

func TestOfSeveralCellsOfAPlaceTheNewestCounts(t *testing.T) { // P18.1
	x := api.Tablet{Epoch: 1}
	l, e := Cells(x, 1, []api.Cell{cell("b", "", 3, ""), cell("b", "x", 2, "u"), cell("b", "x", 3, "v"), cell("b", "", 1, "")})
	if want := append(fixed(x, 1, 0, 0, 1), cell("b", "", 3, ""), cell("b", "x", 3, "v")); e != api.OK || !slices.Equal(l, want) {
		t.Errorf("%s, %d", short(l), e)
	}
	// Of one Version the first one in the list.
	l, e = Cells(x, 1, []api.Cell{cell("b", "", 3, "1"), cell("b", "", 3, "2")})
	if want := append(fixed(x, 1, 0, 0, 1), cell("b", "", 3, "1")); e != api.OK || !slices.Equal(l, want) {
		t.Errorf("%s, %d", short(l), e)
	}
	// The newest ones are not counted, though older ones are.
	if l, e = Cells(x, 1, []api.Cell{cell("b", "", 2, ""), cell("b", "x", 2, ""), cell("b", "x", 3, "")}); len(l) > 0 || e != api.ErrArg {
		t.Errorf("%s, %d", short(l), e)
	}
}

// opens has a store of just these cells be opened, and a machine take them, or
// neither, as the words say; and tells which.
func opens(t *testing.T, l []api.Cell) bool {
	t.Helper()
	want, is := slowOpen(newest(l))
	e := api.ErrForm
	if is {
		e = api.OK
	}
	d := disk.New(1 << 20)
	s := openStore(t, d, 1000)
	must(t, s.Apply(l), api.OK)
	was := lies(d)
	m, got := Open(s)
	if got != e || (m != nil) != is {
		t.Fatalf("opened %d, not %d: %s", got, e, short(l))
	}
	if is {
		sameAs(t, m, want)
	}
	if lies(d) != was {
		t.Fatalf("opening changed the disk: %s", short(l))
	}
	p := tabletOf(t, 3, api.Tablet{Range: api.Range{Low: "c", High: "d"}, Epoch: 7}, cell("c", "", 1, ""))
	was = lies(p.d)
	if got := p.m.Install(l); got != e {
		t.Fatalf("installed %d, not %d: %s", got, e, short(l))
	}
	if is {
		p.s = want
	} else if lies(p.d) != was {
		t.Fatalf("installing %s changed the disk", short(l))
	}
	p.same(t)
	p.anew(t)
	return is
}

func TestWhichStoresAreATablets(t *testing.T) { // P18.2, P18.7
	x := api.Tablet{Range: api.Range{Low: "b", High: "k"}, Epoch: 4, Frozen: true}
	whole := fixed(x, 5, 6, 7, 5)
	for _, rows := range goodRows {
		if !opens(t, append(slices.Clip(whole), rows...)) {
			t.Errorf("not opened with %s", short(rows))
		}
	}
	for _, rows := range badRows {
		if opens(t, append(slices.Clip(whole), rows...)) {
			t.Errorf("opened with %s", short(rows))
		}
	}
	for i := range whole {
		if opens(t, slices.Delete(slices.Clone(whole), i, i+1)) {
			t.Errorf("opened without %+v", whole[i])
		}
		for _, c := range []struct {
			version uint64
			is      bool
		}{{1, true}, {4, true}, {5, true}, {6, false}, {two40, false}} {
			l := slices.Clone(whole)
			l[i].Version = c.version
			if opens(t, l) != c.is {
				t.Errorf("%s of the Version %d", l[i].Col, c.version)
			}
		}
	}
	// A client's cell has its Version too; that of a row may be any.
	for version, is := range map[uint64]bool{5: true, 6: false} {
		if opens(t, append(slices.Clip(whole), cell("", "s2", version, sessionBytes(1, api.Result{})))) != is {
			t.Errorf("s2 of the Version %d", version)
		}
		if !opens(t, append(slices.Clip(whole), cell("b", "", version, ""), cell("b", "x", version, ""))) {
			t.Errorf("b of the Version %d", version)
		}
	}
}

func TestBytesOfOwnCells(t *testing.T) { // P18.2: cut, lengthened, of numbers that may not be
	x := api.Tablet{Range: api.Range{Low: "b", High: "k"}, Epoch: 300}
	whole := append(fixed(x, 300, 300, 100, 5), cell("", "s1", 5, sessionBytes(300, api.Result{Found: true, Row: "r", Value: "v", Version: 300})))
	for i, c := range whole {
		var broken []string
		for n := range len(c.Value) {
			broken = append(broken, c.Value[:n], c.Value[n+1:])
		}
		for _, more := range []string{"\x00", "\x01", "x", c.Value} {
			broken = append(broken, c.Value+more)
		}
		for _, s := range broken {
			l := slices.Clone(whole)
			l[i].Value = s
			_, is := slowOpen(l)
			if opens(t, l) != is {
				t.Errorf("%s of %x", c.Col, s)
			}
		}
	}
	for _, c := range []struct {
		col, value string
		is         bool
	}{
		{"range", texts("", ""), true},
		{"range", texts("b", ""), true},
		{"range", texts(long(24), ""), true},
		{"range", texts(long(25), ""), false},
		{"range", texts("", long(24)), true},
		{"range", texts("", long(25)), false},
		{"range", texts("b", "b"), false},
		{"range", texts("k", "b"), false},
		{"range", "\x81\x00b\x01k", false},
		{"range", texts("b", "k", ""), false},
		{"epoch", numbers(0, 0), true},
		{"epoch", numbers(two40, 1), true},
		{"epoch", numbers(two40+1, 1), false},
		{"epoch", numbers(math.MaxUint64, 1), false},
		{"epoch", numbers(5, 2), false},
		{"epoch", numbers(5, 0xff), false},
		{"epoch", "\x05\xff", false},
		{"epoch", "\x85\x00\x01", false},
		{"epoch", "\x05\x81\x00", false},
		{"epoch", "\x05\x80\x00", false},
		{"applied", numbers(5), true}, // the least one that reaches the Versions
		{"applied", numbers(4), false},
		{"applied", numbers(0), false},
		{"applied", numbers(two40), true},
		{"applied", numbers(two40 + 1), false},
		{"applied", numbers(math.MaxUint64), false},
		{"applied", "\x85\x00", false},
		{"done", numbers(0, 0), true},
		{"done", numbers(0, 100), true},
		{"done", numbers(two40, 0), true},
		{"done", numbers(two40, 100), true},
		{"done", numbers(two40+1, 0), false},
		{"done", numbers(1, 101), false},
		{"done", numbers(1, two40), false},
		{"done", numbers(1, 1<<32), false},
		{"done", numbers(1, 1<<63), false},
		{"done", numbers(1, math.MaxUint64), false},
		{"done", "\x01\x81\x00", false},
		{"s1", sessionBytes(two40, api.Result{Version: two40}), true},
		{"s1", sessionBytes(two40+1, api.Result{}), false},
		{"s1", sessionBytes(1, api.Result{Version: two40 + 1}), false},
	} {
		l := slices.Clone(whole)
		at := slices.IndexFunc(l, func(o api.Cell) bool { return o.Col == c.col })
		l[at].Value = c.value
		if opens(t, l) != c.is {
			t.Errorf("%s of %x: %v", c.col, c.value, !c.is)
		}
	}
	// All of them of a Version 1: then any index is reached.
	if !opens(t, fixed(x, 1, 0, 0, 1)) || opens(t, fixed(x, 0, 0, 0, 1)) {
		t.Error("the index 1, or 0")
	}
}

func TestARangesOwnCellsAreNoRows(t *testing.T) { // P18.2: whatever its Low is
	for _, r := range someRanges {
		x := api.Tablet{Range: r, Epoch: 1}
		if !opens(t, fixed(x, 1, 0, 0, 1)) {
			t.Errorf("%+v", r)
		}
		for _, key := range []string{r.Low, r.Low + "\x00", r.High, "a", "b", "k", "z", long(32), "\xff\xff\xff"} {
			l := append(fixed(x, 1, 0, 0, 1), cell(key, "x", 1, ""), cell(key, "", 1, ""))
			if key == "" {
				continue
			}
			if opens(t, l) != slowHas(r, key) {
				t.Errorf("%+v with the row %q", r, key)
			}
		}
	}
}

func TestInstallOfListsThatNoStoreTells(t *testing.T) { // P18.7
	x := api.Tablet{Range: api.Range{Low: "b", High: "k"}, Epoch: 4}
	whole := fixed(x, 5, 6, 7, 5)
	lists := [][]api.Cell{nil, {}, {{}}, {cell("b", "", 1, "")}}
	for _, rows := range noRows {
		lists = append(lists, append(slices.Clip(whole), rows...), append(slices.Clip(rows), whole...))
	}
	for i := range whole {
		for _, c := range []api.Cell{{Col: whole[i].Col, Version: 5, Gone: true}, {Col: whole[i].Col, Value: whole[i].Value}} {
			l := slices.Clone(whole)
			l[i] = c
			lists = append(lists, l)
		}
	}
	for _, l := range lists {
		p := tabletOf(t, 3, api.Tablet{Epoch: 1}, cell("c", "", 1, ""))
		was := lies(p.d)
		if e := p.m.Install(l); e != api.ErrForm || lies(p.d) != was {
			t.Errorf("Install(%s): %d", short(l), e)
		}
		p.same(t)
		p.gets(t, row(0, 1, 1, putOp("c", "v")), api.Result{Version: 2})
	}
}

func TestInstallOfListsInAnyOrder(t *testing.T) { // P18.7
	x := api.Tablet{Range: api.Range{Low: "b", High: "k"}, Epoch: 4}
	l := append(fixed(x, 5, 6, 7, 5), cell("b", "", 2, ""), cell("b", "x", 2, "v"), cell("", "s0", 3, sessionBytes(2, api.Result{})))
	older := []api.Cell{cell("", "applied", 4, numbers(4)), cell("b", "", 1, ""), cell("b", "x", 1, "u")}
	for i := range 50 {
		r := rand.New(rand.NewSource(int64(i)))
		list := append(slices.Clone(l), older[:i%4]...)
		r.Shuffle(len(list), func(a, b int) { list[a], list[b] = list[b], list[a] })
		p := tabletOf(t, 3, api.Tablet{Epoch: 1})
		want, is := slowInstall(list)
		if !is {
			t.Fatalf("%s", short(list))
		}
		must(t, p.m.Install(list), api.OK)
		p.s = want
		p.same(t)
		if !slices.Equal(p.s.all(), newest(l)) {
			t.Fatalf("%s", short(p.s.all()))
		}
		p.gets(t, row(0, 3, 4, putOp("b", "w")), api.Result{Version: 3})
		p.anew(t)
	}
}

func TestStoresWithCellsThatAreGone(t *testing.T) { // P18.2: they are none any more
	x := api.Tablet{Range: api.Range{Low: "b", High: "k"}, Epoch: 4}
	gone := func(row, col string, version uint64) api.Cell {
		return api.Cell{Row: row, Col: col, Version: version, Gone: true}
	}
	for _, c := range []struct {
		is   api.Errno
		more []api.Cell
	}{
		{api.OK, []api.Cell{cell("a", "x", 1, ""), gone("a", "x", 2)}},
		{api.OK, []api.Cell{cell("", "s7", 1, ""), gone("", "s7", 2)}},
		{api.OK, []api.Cell{cell("", "s0", 1, "x"), gone("", "s0", 9)}},
		{api.OK, []api.Cell{cell("b", "", 1, ""), cell("b", "x", 2, ""), gone("b", "x", 3)}},
		{api.ErrForm, []api.Cell{cell("b", "", 1, ""), cell("b", "x", 1, ""), gone("b", "", 2)}},
		{api.ErrForm, []api.Cell{gone("", "range", 9)}},
		{api.ErrForm, []api.Cell{gone("", "done", 9)}},
		{api.ErrNone, []api.Cell{gone("", "range", 9), gone("", "done", 9), gone("", "epoch", 9), gone("", "applied", 9)}},
	} {
		for _, flush := range []int{1, 3, 1000} {
			s := openStore(t, disk.New(1<<20), flush)
			must(t, s.Apply(fixed(x, 5, 6, 7, 5)), api.OK)
			must(t, s.Apply(c.more), api.OK)
			m, e := Open(s)
			if e != c.is || (m != nil) != (e == api.OK) {
				t.Errorf("with %+v opened: %d", c.more, e)
			}
			if e == api.OK && (m.Tablet() != x || m.Applied() != 5) {
				t.Errorf("%+v", m.Tablet())
			}
		}
	}
}

func TestAStoreWithoutCells(t *testing.T) { // P18.2
	for _, flush := range []int{1, 1000} {
		s := openStore(t, disk.New(1<<20), flush)
		if m, e := Open(s); m != nil || e != api.ErrNone {
			t.Errorf("%v, %d", m, e)
		}
		must(t, s.Replace(fixed(api.Tablet{}, 1, 0, 0, 1)), api.OK)
		must(t, s.Replace(nil), api.OK)
		if m, e := Open(s); m != nil || e != api.ErrNone {
			t.Errorf("%v, %d", m, e)
		}
	}
}

// brokenStore is one whose log has met an error.
func brokenStore(t *testing.T) *lsm.Store {
	t.Helper()
	s := openStore(t, disk.New(10), 5)
	must(t, s.Apply([]api.Cell{cell("a", "", 1, long(100))}), api.ErrFull)
	return s
}

func TestAMachineThatIsNone(t *testing.T) { // P18.2 to P18.7, R1, R3
	for i, s := range []*lsm.Store{nil, new(lsm.Store), brokenStore(t)} {
		if m, e := Open(s); m != nil || e != api.ErrNil {
			t.Errorf("%d: Open: %v, %d", i, m, e)
		}
	}
	for i, m := range []*Machine{nil, new(Machine)} {
		if x := m.Tablet(); x != (api.Tablet{}) || m.Applied() != 0 {
			t.Errorf("%d: %+v, %d", i, x, m.Applied())
		}
		if proc, step := m.Done(); proc != 0 || step != 0 {
			t.Errorf("%d: Done: %d, %d", i, proc, step)
		}
		for client := -1; client <= 4; client++ {
			if r, again, e := m.Look(client, 0); r != (api.Result{}) || again || e != api.ErrNil {
				t.Errorf("%d: Look: %+v, %v, %d", i, r, again, e)
			}
		}
		for _, o := range []api.Op{{}, getOp("a")} {
			if e := m.Ready(1, o); e != api.ErrNil {
				t.Errorf("%d: Ready: %d", i, e)
			}
		}
		for _, c := range []api.Cmd{{}, {Kind: 99}, freeze(1, 0, 0), split(1, 0, 0, "k", 4)} {
			for _, index := range []uint64{0, 1, two40 + 1} {
				if b, is := m.Birth(index, c); b.Group != 0 || len(b.Members)+len(b.Cells) > 0 || is {
					t.Errorf("%d: Birth: %+v, %v", i, b, is)
				}
				if r, e := m.Apply(index, c); r != (api.Result{}) || e != api.ErrNil {
					t.Errorf("%d: Apply: %+v, %d", i, r, e)
				}
			}
		}
		if l, e := m.Snapshot(); len(l) > 0 || e != api.ErrNil {
			t.Errorf("%d: Snapshot: %+v, %d", i, l, e)
		}
		if m.Sync() != api.ErrNil {
			t.Errorf("%d: Sync: %d", i, m.Sync())
		}
		for _, l := range [][]api.Cell{nil, fixed(api.Tablet{}, 1, 0, 0, 1)} {
			if e := m.Install(l); e != api.ErrNil {
				t.Errorf("%d: Install: %d", i, e)
			}
		}
	}
}

func TestLookOfEachClient(t *testing.T) { // P18.3
	last := map[int]said{
		0: {1, api.Result{Version: 1}},
		1: {two40, api.Result{Found: true, Row: "r", Value: "v", Version: two40}},
		3: {5, refusal(api.ErrLong)},
	}
	var l []api.Cell
	for client, a := range last {
		l = append(l, cell("", clients[client], 1, sessionBytes(a.seq, a.r)))
	}
	m := tabletOf(t, 3, api.Tablet{Epoch: 1}, l...).m
	for _, c := range []struct {
		client int
		seq    uint64
		want   looked
	}{
		{0, 1, looked{r: last[0].r, again: true}},
		{0, 2, looked{}},
		{0, 0, looked{e: api.ErrArg}},
		{1, two40, looked{r: last[1].r, again: true}},
		{1, two40 - 1, looked{e: api.ErrStale}},
		{1, two40 + 1, looked{e: api.ErrArg}},
		{2, 1, looked{}},
		{2, two40, looked{}},
		{2, two40 + 1, looked{e: api.ErrArg}},
		{3, 4, looked{e: api.ErrStale}},
		{3, 5, looked{r: last[3].r, again: true}},
		{3, 6, looked{}},
		{4, 1, looked{e: api.ErrArg}},
		{-1, 1, looked{e: api.ErrArg}},
		{-1, 0, looked{e: api.ErrArg}},
		{math.MaxInt, 1, looked{e: api.ErrArg}},
		{math.MinInt, 1, looked{e: api.ErrArg}},
		{1 << 32, 1, looked{e: api.ErrArg}},
		{256, 1, looked{e: api.ErrArg}},
	} {
		r, again, e := m.Look(c.client, c.seq)
		if got := (looked{r, again, e}); got != c.want {
			t.Errorf("Look(%d, %d): %+v, not %+v", c.client, c.seq, got, c.want)
		}
	}
}

func TestWhatATabletIsReadyFor(t *testing.T) { // P18.4
	r := api.Range{Low: "b", High: "k"}
	thawed := tabletOf(t, 3, api.Tablet{Range: r, Epoch: 4})
	frozen := tabletOf(t, 3, api.Tablet{Range: r, Epoch: 4, Frozen: true})
	whole := tabletOf(t, 3, api.Tablet{Epoch: two40})
	for _, c := range []struct {
		p     pair
		epoch uint64
		o     api.Op
		want  api.Errno
	}{
		{thawed, 4, getOp("b"), api.OK},
		{thawed, 4, putOp("b", "v"), api.OK},
		{thawed, 4, delOp("j\xff"), api.OK},
		{thawed, 4, checkOp("c", true, "v", "w"), api.OK},
		{thawed, 4, getOp("a\xff"), api.ErrRange},
		{thawed, 4, putOp("k", "v"), api.ErrRange},
		{thawed, 4, delOp("k\x00"), api.ErrRange},
		{thawed, 4, checkOp("a", false, "", ""), api.ErrRange},
		{thawed, 4, seekOp(""), api.OK},
		{thawed, 4, seekOp("a"), api.OK},
		{thawed, 4, seekOp("k"), api.OK},
		{thawed, 4, seekOp(long(32)), api.OK},
		{thawed, 3, getOp("b"), api.ErrEpoch},
		{thawed, 5, getOp("b"), api.ErrEpoch},
		{thawed, 0, seekOp(""), api.ErrEpoch},
		{thawed, 5, getOp("z"), api.ErrEpoch},
		{thawed, math.MaxUint64, getOp("b"), api.ErrEpoch},
		{thawed, 4, api.Op{}, api.ErrArg},
		{thawed, 4, getOp(""), api.ErrArg},
		{thawed, 4, getOp(long(25)), api.ErrArg},
		{thawed, 4, seekOp(long(33)), api.ErrArg},
		{thawed, 4, putOp("b", long(257)), api.ErrArg},
		{thawed, 5, api.Op{Kind: 99}, api.ErrArg},
		{frozen, 4, getOp("b"), api.ErrFrozen},
		{frozen, 4, seekOp("b"), api.ErrFrozen},
		{frozen, 4, getOp("z"), api.ErrFrozen},
		{frozen, 5, getOp("b"), api.ErrEpoch},
		{frozen, 5, api.Op{}, api.ErrArg},
		{whole, two40, getOp("\x00"), api.OK},
		{whole, two40, putOp(long(24), ""), api.OK},
		{whole, two40 + 1, getOp("b"), api.ErrEpoch},
	} {
		was := lies(c.p.d)
		if e := c.p.m.Ready(c.epoch, c.o); e != c.want || c.p.s.ready(c.epoch, c.o) != c.want {
			t.Errorf("Ready(%d, %+v) of %+v: %d, not %d", c.epoch, c.o, c.p.s.t, e, c.want)
		}
		if lies(c.p.d) != was {
			t.Errorf("Ready(%d, %+v) changed the disk", c.epoch, c.o)
		}
	}
}

// oneOfEach are a command of each kind that a frozen tablet of the epoch 1
// would do, or take.
var oneOfEach = []api.Cmd{
	{},
	row(0, 1, 1, putOp("m", "v")),
	freeze(1, 0, 1),
	split(1, 1, 1, "k", 4),
	thaw(1, 2, 2),
	metaRow(1, 3, "m", "w"),
	{Kind: api.CmdWant, Want: api.Want{Group: 3, Key: "k"}},
	{Kind: api.CmdStep, Proc: 1, Step: 4},
}

func TestTheIndexIsTheOneBehindApplied(t *testing.T) { // P18.5, P18.6
	for _, applied := range []uint64{1, 2, 127, two40 - 2, two40 - 1, two40} {
		for _, c := range oneOfEach {
			l, e := slowCells(api.Tablet{Epoch: 1, Frozen: true}, applied, nil)
			must(t, e, api.OK)
			p := pairOf(t, 3, l)
			for _, index := range []uint64{0, 1, 2, 3, applied - 1, applied, applied + 2, two40 + 1, two40 + 2, math.MaxUint64} {
				if index == applied+1 {
					continue
				}
				if r, e := p.try(t, index, c); r != (api.Result{}) || e != api.ErrArg {
					t.Errorf("Apply(%d) behind %d: %+v, %d", index, applied, r, e)
				}
			}
			want, wantApplied := api.OK, applied+1
			if applied == two40 {
				want, wantApplied = api.ErrArg, applied
			}
			if _, e := p.try(t, applied+1, c); e != want || p.m.Applied() != wantApplied {
				t.Errorf("Apply(%d): %d, %d", applied+1, e, p.m.Applied())
			}
		}
	}
}

func TestCommandsThatMayNotBe(t *testing.T) { // P18.5, P18.6, R2
	bad := []api.Cmd{
		{Kind: -1}, {Kind: 8}, {Kind: 99}, {Kind: math.MaxInt}, {Kind: math.MinInt},
		{Kind: api.CmdRow},
		{Kind: api.CmdNone, Key: "k"},
		row(4, 1, 1, getOp("m")), row(-1, 1, 1, getOp("m")), row(0, 0, 1, getOp("m")), row(0, two40+1, 1, getOp("m")),
		row(0, 1, two40+1, getOp("m")), row(0, 1, 1, getOp("")), row(0, 1, 1, api.Op{Kind: api.OpGet, Row: "m"}),
		freeze(0, 0, 1), freeze(two40+1, 0, 1), freeze(1, -1, 1), freeze(1, 101, 1), freeze(1, 0, two40+1),
		thaw(0, 0, 2), thaw(1, 101, 2), thaw(1, 0, two40+1),
		split(0, 0, 1, "k", 4), split(1, -1, 1, "k", 4), split(1, 0, two40+1, "k", 4), split(1, 0, 1, "", 4),
		split(1, 0, 1, long(25), 4), split(1, 0, 1, "k", 3), split(1, 0, 1, "k", 12),
		metaRow(0, 0, "m", ""), metaRow(1, 101, "m", ""), metaRow(1, 0, "", ""), metaRow(1, 0, long(33), ""), metaRow(1, 0, "m", long(257)),
		{Kind: api.CmdStep}, {Kind: api.CmdStep, Proc: 1, Step: 101},
		{Kind: api.CmdWant, Want: api.Want{Group: 12, Key: "k"}},
	}
	for _, c := range oneOfEach {
		for _, spoil := range []func(c *api.Cmd){
			func(c *api.Cmd) { c.Client = 9 },
			func(c *api.Cmd) { c.Step = -9 },
			func(c *api.Cmd) { c.Value = long(300) },
			func(c *api.Cmd) { c.Group = -1 },
			func(c *api.Cmd) { c.Op.Kind += 9 },
			func(c *api.Cmd) { c.Want.Out += 9 },
		} {
			spoil(&c)
			bad = append(bad, c)
		}
	}
	for _, frozen := range []bool{false, true} {
		p := tabletOf(t, 3, api.Tablet{Epoch: 1, Frozen: frozen}, cell("m", "", 1, ""), cell("m", "x", 1, "v"))
		for _, c := range bad {
			for _, index := range []uint64{2, 0, 3} {
				if r, e := p.try(t, index, c); r != (api.Result{}) || e != api.ErrArg {
					t.Errorf("Apply(%d, %+v): %+v, %d", index, c, r, e)
				}
			}
		}
		if p.m.Applied() != 1 {
			t.Errorf("%d is applied", p.m.Applied())
		}
	}
}

func TestCommandsThatDoNothing(t *testing.T) { // P18.5: but they are applied
	for _, frozen := range []bool{false, true} {
		p := tabletOf(t, 3, api.Tablet{Epoch: 1, Frozen: frozen}, cell("m", "", 1, ""), cell("m", "x", 1, "v"))
		for range 3 {
			for _, c := range []api.Cmd{
				{},
				{Kind: api.CmdWant, Want: api.Want{Group: 3, Key: "k"}},
				{Kind: api.CmdWant, Want: api.Want{Move: true, Group: 3, In: 3, Out: 1}},
				{Kind: api.CmdStep, Proc: 1},
				{Kind: api.CmdStep, Proc: two40, Step: 100},
			} {
				p.changesNothing(t, c, api.Result{})
			}
		}
		// A boss's own step is not one of a tablet's.
		if proc, step := p.m.Done(); proc != 0 || step != 0 {
			t.Errorf("%d, %d", proc, step)
		}
		p.anew(t)
	}
}

func TestOperationsThatAreDone(t *testing.T) { // P18.5, P18.9
	for _, flush := range []int{1, 4, 1000} {
		p := tabletOf(t, flush, api.Tablet{Epoch: 1})
		seq := uint64(0)
		for _, c := range []struct {
			o    api.Op
			want api.Result
		}{
			{getOp("m"), api.Result{}},
			{delOp("m"), api.Result{}},
			{checkOp("m", true, "v", "w"), api.Result{}},
			{seekOp(""), api.Result{}},
			{putOp("m", "v"), api.Result{Version: 1}},
			{getOp("m"), api.Result{Found: true, Value: "v", Version: 1}},
			{checkOp("m", false, "", "w"), api.Result{Value: "v", Version: 1}},
			{checkOp("m", true, "u", "w"), api.Result{Value: "v", Version: 1}},
			{checkOp("m", true, "v", "w"), api.Result{Found: true, Version: 2}},
			{seekOp("m"), api.Result{Found: true, Row: "m", Value: "w", Version: 2}},
			{seekOp("m\x00"), api.Result{}},
			{api.Op{Kind: api.OpPut, Row: "m", Col: "y", Value: "z"}, api.Result{Version: 3}},
			{getOp("m"), api.Result{Found: true, Value: "w", Version: 2}},
			{delOp("m"), api.Result{Found: true, Version: 4}},
			{getOp("m"), api.Result{}},
			{seekOp("a"), api.Result{}},
			{checkOp("m", false, "", ""), api.Result{Found: true, Version: 5}},
			{getOp("m"), api.Result{Found: true, Version: 5}},
			{putOp("m\x00", ""), api.Result{Version: 1}},
			{getOp("m"), api.Result{Found: true, Version: 5}},
			{delOp("m"), api.Result{Found: true, Version: 6}},
			{seekOp("m"), api.Result{Found: true, Row: "m\x00", Version: 1}},
		} {
			seq++
			c1 := row(2, seq, 1, c.o)
			p.gets(t, c1, c.want)
			if r, again, e := p.m.Look(2, seq); r != c.want || !again || e != api.OK {
				t.Errorf("Look: %+v, %v, %d", r, again, e)
			}
			p.changesNothing(t, c1, c.want)
		}
		p.anew(t)
	}
}

func TestOperationsThatAreRefused(t *testing.T) { // P18.5, P18.9 (W4): they change nothing but Applied
	r := api.Range{Low: "b", High: "k"}
	last := api.Result{Found: true, Value: "u", Version: 7}
	rows := []api.Cell{cell("c", "", 1, ""), cell("c", "x", 1, "v"), cell("", "s1", 1, sessionBytes(9, last))}
	for _, frozen := range []bool{false, true} {
		p := tabletOf(t, 3, api.Tablet{Range: r, Epoch: 4, Frozen: frozen}, rows...)
		for _, c := range []struct {
			c               api.Cmd
			thawed, ifFroze api.Result
		}{
			{row(1, 9, 4, putOp("c", "w")), last, last},
			{row(1, 9, 3, putOp("z", "w")), last, last}, // again, whatever else is wrong
			{row(1, 8, 4, putOp("c", "w")), refusal(api.ErrStale), refusal(api.ErrStale)},
			{row(1, 1, 5, putOp("z", "w")), refusal(api.ErrStale), refusal(api.ErrStale)},
			{row(1, 10, 3, putOp("c", "w")), refusal(api.ErrEpoch), refusal(api.ErrEpoch)},
			{row(1, 10, 5, putOp("z", "w")), refusal(api.ErrEpoch), refusal(api.ErrEpoch)},
			{row(1, 10, 0, seekOp("")), refusal(api.ErrEpoch), refusal(api.ErrEpoch)},
			{row(1, 10, two40, getOp("c")), refusal(api.ErrEpoch), refusal(api.ErrEpoch)},
			{row(1, 10, 4, putOp("k", "w")), refusal(api.ErrRange), refusal(api.ErrFrozen)},
			{row(1, 10, 4, delOp("a\xff")), refusal(api.ErrRange), refusal(api.ErrFrozen)},
			{row(0, 1, 4, getOp("z")), refusal(api.ErrRange), refusal(api.ErrFrozen)},
			{row(3, two40, 4, checkOp("a", false, "", "")), refusal(api.ErrRange), refusal(api.ErrFrozen)},
		} {
			want := c.thawed
			if frozen {
				want = c.ifFroze
			}
			p.changesNothing(t, c.c, want)
		}
		if frozen {
			p.changesNothing(t, row(1, 10, 4, getOp("c")), refusal(api.ErrFrozen))
			p.changesNothing(t, row(1, 10, 4, seekOp("")), refusal(api.ErrFrozen))
			continue
		}
		// What was refused is not what the client was answered: it may ask it anew.
		p.gets(t, row(1, 10, 4, putOp("c", "w")), api.Result{Version: 2})
		p.anew(t)
	}
}

func TestRowsAtTheEndsOfTheRange(t *testing.T) { // P18.5: at Low, just below High, at High
	for _, r := range someRanges {
		p := tabletOf(t, 2, api.Tablet{Range: r, Epoch: 1})
		seq := uint64(0)
		for _, key := range []string{r.Low, r.Low + "\x00", r.High, strings.TrimSuffix(r.High, "k") + "j\xff", "a", "b", "b\x00", "k", "\xff", "\xff\x00", "\xff\xff", long(24)} {
			if key == "" || len(key) > 24 {
				continue
			}
			want := refusal(api.ErrRange)
			if slowHas(r, key) {
				want = api.Result{Version: p.s.rows[place{row: key}].Version + 1}
			}
			seq++
			p.gets(t, row(0, seq, 1, putOp(key, "v")), want)
		}
		p.anew(t)
	}
}

func TestSeeks(t *testing.T) { // P18.5: within the range, no own cells, such that have the column
	rows := []api.Cell{
		cell("b", "", 2, ""), cell("b", "y", 2, "by"),
		cell("d", "", 3, ""), cell("d", "x", 1, "dx"), cell("d", "y", 3, "dy"),
		cell("f"+long(31), "", 4, ""), cell("f"+long(31), "x", 4, "fx"),
		cell("g", "", 9, ""),
		cell("", "s0", 1, sessionBytes(1, api.Result{})),
	}
	found := func(row, value string, version uint64) api.Result {
		return api.Result{Found: true, Row: row, Value: value, Version: version}
	}
	dx, by, dy, fx := found("d", "dx", 1), found("b", "by", 2), found("d", "dy", 3), found("f"+long(31), "fx", 4)
	for _, r := range []api.Range{{}, {Low: "b"}, {High: "k"}, {Low: "b", High: "k"}, {Low: "a", High: "h"}, {High: "g\x00"}} {
		for _, flush := range []int{1, 1000} {
			p := tabletOf(t, flush, api.Tablet{Range: r, Epoch: 1}, rows...)
			seq := uint64(1)
			for _, c := range []struct {
				from, col string
				want      api.Result
			}{
				{"", "x", dx}, {"a", "x", dx}, {"b", "x", dx}, {"d", "x", dx}, {"d\x00", "x", fx}, {"f" + long(31), "x", fx}, {"g", "x", api.Result{}},
				{"", "y", by}, {"b", "y", by}, {"b\x00", "y", dy}, {"e", "y", api.Result{}},
				{"", "s0", api.Result{}}, {"", "range", api.Result{}}, {"", "applied", api.Result{}}, {"", "z", api.Result{}},
				{"k", "x", api.Result{}}, {"z", "x", api.Result{}}, {long(32), "x", api.Result{}}, {"\xff", "y", api.Result{}},
			} {
				seq++
				p.gets(t, row(0, seq, 1, api.Op{Kind: api.OpSeek, Row: c.from, Col: c.col}), c.want)
			}
			// What is gone is passed by.
			p.gets(t, row(0, seq+1, 1, delOp("d")), api.Result{Found: true, Version: 4})
			p.gets(t, row(0, seq+2, 1, seekOp("")), fx)
		}
	}
}

// withLong is a tablet whose row m has a value of so many bytes, as no file of a
// store takes it, but its log does.
func withLong(t *testing.T, bytes int) pair {
	t.Helper()
	p := pair{d: disk.New(1 << 22), flush: 1000}
	s := openStore(t, p.d, p.flush)
	l, e := slowCells(api.Tablet{Epoch: 1}, 1, []api.Cell{cell("m", "", 1, ""), cell("m", "x", 1, long(bytes))})
	must(t, e, api.OK)
	must(t, s.Apply(l), api.OK)
	return p.opened(t, s)
}

func TestResultsThatLeaveTheClientsCellNoRoom(t *testing.T) { // P18.5
	for _, c := range []struct {
		bytes int
		seq   uint64
		o     api.Op
		fits  bool
	}{
		// The Seq, Err, Found, Row, the value's length in three bytes, Version.
		{65536 - 8, 1, getOp("m"), true},
		{65536 - 7, 1, getOp("m"), false},
		{65536, 1, getOp("m"), false},
		{65536 - 8, 127, getOp("m"), true},
		{65536 - 8, 128, getOp("m"), false},
		{65536 - 9, 128, getOp("m"), true},
		{65536 - 13, two40, getOp("m"), true},
		{65536 - 12, two40, getOp("m"), false},
		{65536 - 9, 1, seekOp(""), true}, // the Row too
		{65536 - 8, 1, seekOp(""), false},
		{65536 - 8, 1, checkOp("m", true, "v", "w"), true},
		{65536 - 7, 1, checkOp("m", true, "v", "w"), false},
	} {
		p := withLong(t, c.bytes)
		was, e := p.m.Snapshot()
		must(t, e, api.OK)
		r := p.next(t, row(3, c.seq, 1, c.o))
		if r.Err == api.OK != c.fits || c.fits && len(r.Value) != c.bytes {
			t.Fatalf("%d bytes: %s", c.bytes, short(r))
		}
		if c.fits {
			p.changesNothing(t, row(3, c.seq, 1, c.o), r)
			continue
		}
		if r != refusal(api.ErrLong) {
			t.Fatalf("%d bytes: %s", c.bytes, short(r))
		}
		now, e := p.m.Snapshot()
		must(t, e, api.OK)
		if !slices.Equal(now[1:], was[1:]) {
			t.Fatalf("%d bytes: of %s became %s", c.bytes, short(was), short(now))
		}
		p.changesNothing(t, row(3, c.seq, 1, c.o), refusal(api.ErrLong))
		// Put over, it is got by the same Seq.
		p.gets(t, row(2, 1, 1, delOp("m")), api.Result{Found: true, Version: 2})
		p.gets(t, row(3, c.seq, 1, getOp("m")), api.Result{})
	}
}

func TestARowThatWasChangedAsOftenAsItMayBe(t *testing.T) { // P18.5: the model's ErrLong is what the client was answered
	p := tabletOf(t, 3, api.Tablet{Epoch: 1}, cell("m", "", two40-1, ""), cell("m", "x", 1, "v"))
	p.gets(t, row(0, 1, 1, putOp("m", "w")), api.Result{Version: two40})
	for i, o := range []api.Op{putOp("m", "u"), delOp("m"), checkOp("m", true, "w", "u")} {
		seq := uint64(2 + i)
		p.gets(t, row(0, seq, 1, o), refusal(api.ErrLong))
		if r, again, e := p.m.Look(0, seq); r != refusal(api.ErrLong) || !again || e != api.OK {
			t.Errorf("%+v, %v, %d", r, again, e)
		}
	}
	p.gets(t, row(0, 9, 1, getOp("m")), api.Result{Found: true, Value: "w", Version: two40})
}

func TestWhichStepsAreBehindDone(t *testing.T) { // P18.5, P18.8
	for _, done := range []struct {
		proc uint64
		step int
	}{{0, 0}, {0, 100}, {1, 0}, {5, 7}, {5, 100}, {two40, 0}, {two40, 99}, {two40, 100}} {
		for _, proc := range []uint64{1, 4, 5, 6, two40 - 1, two40} {
			for _, step := range []int{0, 1, 6, 7, 8, 99, 100} {
				for _, c := range []api.Cmd{freeze(proc, step, 1), thaw(proc, step, 2), split(proc, step, 1, "k", 4), metaRow(proc, step, "m", "v")} {
					p := pairOf(t, 1000, fixed(api.Tablet{Epoch: 1, Frozen: true}, 1, done.proc, done.step, 1))
					isBehind := proc > done.proc || proc == done.proc && step > done.step
					if !isBehind {
						p.changesNothing(t, c, api.Result{})
						continue
					}
					p.gets(t, c, api.Result{})
					if proc1, step1 := p.m.Done(); proc1 != proc || step1 != step {
						t.Fatalf("%+v behind %+v: %d, %d", c, done, proc1, step1)
					}
					p.changesNothing(t, c, api.Result{})
				}
			}
		}
	}
}

func TestStepsThatAreNotBehindDoneAreNotRefused(t *testing.T) { // P18.5: though something else is wrong too
	for _, frozen := range []bool{false, true} {
		p := pairOf(t, 3, fixed(api.Tablet{Range: api.Range{Low: "b", High: "k"}, Epoch: 4, Frozen: frozen}, 1, 5, 7, 1))
		for _, c := range []api.Cmd{
			freeze(5, 7, 9), freeze(4, 100, 4), thaw(5, 7, 9), thaw(5, 6, 5), thaw(1, 0, 4),
			split(5, 7, 9, "c", 4), split(5, 0, 4, "z", 4), split(4, 8, 4, "b", 4), metaRow(5, 7, "z", ""), metaRow(4, 9, "c", "v"),
		} {
			p.changesNothing(t, c, api.Result{})
		}
	}
}

func TestFreeze(t *testing.T) { // P18.5
	for _, epoch := range []uint64{0, 1, 300, two40} {
		p := tabletOf(t, 3, api.Tablet{Range: api.Range{Low: "b"}, Epoch: epoch}, cell("m", "", 1, ""), cell("m", "x", 1, "v"))
		for _, other := range []uint64{0, 1, epoch - 1, epoch + 1, two40} {
			if other != epoch && other <= two40 {
				p.changesNothing(t, freeze(1, 0, other), refusal(api.ErrEpoch))
			}
		}
		p.gets(t, freeze(1, 0, epoch), api.Result{})
		if x := p.m.Tablet(); x != (api.Tablet{Range: api.Range{Low: "b"}, Epoch: epoch, Frozen: true}) {
			t.Errorf("%+v", x)
		}
		p.changesNothing(t, freeze(1, 0, epoch), api.Result{})
		p.changesNothing(t, freeze(2, 0, (epoch+1)%two40), refusal(api.ErrEpoch))
		// A frozen one is frozen by another procedure too.
		p.gets(t, freeze(2, 3, epoch), api.Result{})
		if proc, step := p.m.Done(); proc != 2 || step != 3 || !p.m.Tablet().Frozen {
			t.Errorf("%d, %d, %+v", proc, step, p.m.Tablet())
		}
		p.anew(t)
	}
}

func TestThaw(t *testing.T) { // P18.5
	r := api.Range{Low: "b", High: "k"}
	for _, epoch := range []uint64{0, 1, 300, two40 - 1} {
		p := tabletOf(t, 3, api.Tablet{Range: r, Epoch: epoch}, cell("c", "", 1, ""))
		for _, other := range []uint64{0, epoch, epoch + 1, epoch + 2, two40} {
			p.changesNothing(t, thaw(3, 2, min(other, two40)), refusal(api.ErrBusy))
		}
		p.gets(t, freeze(3, 1, epoch), api.Result{})
		for _, other := range []uint64{0, epoch - 1, epoch, epoch + 2, two40} {
			if other != epoch+1 && other <= two40 {
				p.changesNothing(t, thaw(3, 2, other), refusal(api.ErrEpoch))
			}
		}
		p.gets(t, thaw(3, 2, epoch+1), api.Result{})
		if x := p.m.Tablet(); x != (api.Tablet{Range: r, Epoch: epoch + 1}) {
			t.Errorf("%+v", x)
		}
		p.changesNothing(t, thaw(3, 2, epoch+1), api.Result{})
		p.changesNothing(t, thaw(3, 3, min(epoch+2, two40)), refusal(api.ErrBusy))
		p.gets(t, row(0, 1, epoch+1, putOp("c", "v")), api.Result{Version: 2})
		p.anew(t)
	}
	// There is no epoch above the greatest one.
	p := tabletOf(t, 3, api.Tablet{Range: r, Epoch: two40, Frozen: true})
	for _, other := range []uint64{0, 1, two40 - 1, two40} {
		p.changesNothing(t, thaw(1, 0, other), refusal(api.ErrEpoch))
	}
}

func TestSplitsThatAreRefused(t *testing.T) { // P18.5, P18.6
	r := api.Range{Low: "b", High: "k"}
	rows := []api.Cell{cell("b", "", 1, ""), cell("c", "", 1, ""), cell("c", "x", 1, "v"), cell("j", "", 1, "")}
	thawed := tabletOf(t, 3, api.Tablet{Range: r, Epoch: 4}, rows...)
	for _, c := range []api.Cmd{split(1, 1, 4, "c", 4), split(1, 1, 5, "c", 4), split(1, 1, 4, "z", 4)} {
		thawed.changesNothing(t, c, refusal(api.ErrBusy))
	}
	frozen := tabletOf(t, 3, api.Tablet{Range: r, Epoch: 4, Frozen: true}, rows...)
	for _, epoch := range []uint64{0, 3, 5, two40} {
		frozen.changesNothing(t, split(1, 1, epoch, "c", 4), refusal(api.ErrEpoch))
		frozen.changesNothing(t, split(1, 1, epoch, "z", 4), refusal(api.ErrEpoch))
	}
	for _, key := range []string{"a", "a\xff", "b", "k", "k\x00", "z", "\xff", long(24)} {
		frozen.changesNothing(t, split(1, 1, 4, key, 4), refusal(api.ErrRange))
	}
	last := tabletOf(t, 3, api.Tablet{Range: r, Epoch: two40, Frozen: true}, rows...)
	for _, key := range []string{"c", "b", "z"} {
		last.changesNothing(t, split(1, 1, two40, key, 4), refusal(api.ErrEpoch))
	}
}

func TestSplits(t *testing.T) { // P18.5, P18.6, P18.10
	rows := []api.Cell{
		cell("b", "", 1, ""), cell("b", "x", 1, "1"), cell("b\x00", "", 2, ""), cell("b\x00", "y", 2, "2"),
		cell("c", "", 9, ""), cell("c", "x", 3, "3"), cell("c", "y", 9, "4"), cell("j\xff", "", 1, ""),
		cell("j"+long(31), "", 5, ""), cell("j"+long(31), "x", 5, "5"),
		cell("", "s0", 1, sessionBytes(2, api.Result{Version: 1})), cell("", "s3", 1, sessionBytes(two40, api.Result{Found: true, Value: "w", Version: 3})),
	}
	for _, r := range []api.Range{{}, {Low: "b"}, {High: "k"}, {Low: "b", High: "k"}, {Low: "b", High: "j\xff\x00"}} {
		for _, key := range []string{"b", "b\x00", "b\x01", "c", "c\x00", "d", "j", "j\xff", "j\xff\x00", "k", "\x00", "a", "\xff"} {
			for _, flush := range []int{1, 3, 1000} {
				for _, epoch := range []uint64{0, 4, two40 - 1} {
					p := tabletOf(t, flush, api.Tablet{Range: r, Epoch: epoch, Frozen: true}, rows...)
					c := split(1, 1, epoch, key, 11)
					if !slowHas(r, key) || key == r.Low {
						p.changesNothing(t, c, refusal(api.ErrRange))
						continue
					}
					splits(t, p, c)
				}
			}
		}
	}
}

// splits has a split be done, and what is left and born be what was.
func splits(t *testing.T, p pair, c api.Cmd) pair {
	t.Helper()
	was, before := p.s.clone(), p.s.all()
	b, is := p.m.Birth(was.applied+1, c)
	if !is || b.Group != c.Group {
		t.Fatalf("%s, %v", short(b), is)
	}
	p.gets(t, c, api.Result{})
	p.changesNothing(t, c, api.Result{})
	p.anew(t)
	born := pairOf(t, p.flush, b.Cells)
	left, right := p.m.Tablet(), born.m.Tablet()
	want := api.Tablet{Range: was.t.Range, Epoch: was.t.Epoch + 1}
	if left.Range.High != c.Key || right.Range.Low != c.Key || keys.Meet(left.Range, right.Range) {
		t.Fatalf("%+v, %+v", left, right)
	}
	together := left
	together.Range.High = right.Range.High
	left.Range, right.Range = want.Range, want.Range
	if together != want || left != want || right != want {
		t.Fatalf("of %+v came %+v, and %+v", was.t, p.m.Tablet(), born.m.Tablet())
	}
	if proc, step := born.m.Done(); proc != 0 || step != 0 || born.m.Applied() != 1 {
		t.Fatalf("born with %d, %d, %d", proc, step, born.m.Applied())
	}
	// Each row's cells are in one of both, as they were; what clients were
	// answered is in both.
	rowsOf := func(l []api.Cell) []api.Cell {
		return slices.DeleteFunc(l, func(c api.Cell) bool { return c.Row == "" })
	}
	if now := append(rowsOf(p.s.all()), rowsOf(born.s.all())...); !slices.Equal(now, rowsOf(before)) {
		t.Fatalf("of %s came %s", short(before), short(now))
	}
	if !maps.Equal(p.s.said, was.said) || !maps.Equal(born.s.said, was.said) {
		t.Fatalf("%+v, %+v, not %+v", p.s.said, born.s.said, was.said)
	}
	return born
}

func TestSplitsThatAreNotDoneBearNothing(t *testing.T) { // P18.6
	frozen := fixed(api.Tablet{Epoch: 1, Frozen: true}, 1, 1, 1, 1)
	p := pairOf(t, 3, append(frozen, cell("m", "", 1, "")))
	was := lies(p.d)
	c := split(1, 2, 1, "k", 4)
	for range 2 { // it does nothing, so it may be asked twice
		if b, is := p.m.Birth(2, c); !is || b.Group != 4 || len(b.Cells) != 5 {
			t.Fatalf("%s, %v", short(b), is)
		}
	}
	for _, one := range []struct {
		index uint64
		c     api.Cmd
	}{
		{0, c}, {1, c}, {3, c}, {two40, c}, {two40 + 1, c},
		{2, split(1, 1, 1, "k", 4)}, {2, split(1, 0, 1, "k", 4)}, // it is done already
		{2, split(1, 2, 2, "k", 4)}, {2, split(1, 2, 0, "k", 4)},
		{2, split(1, 2, 1, "", 4)}, {2, split(1, 2, 1, long(25), 4)},
		{2, split(1, 2, 1, "k", 3)}, {2, split(1, 2, 1, "k", 12)}, {2, split(0, 2, 1, "k", 4)},
		{2, freeze(1, 2, 1)}, {2, thaw(1, 2, 2)}, {2, metaRow(1, 2, "k", "v")}, {2, api.Cmd{}}, {2, row(0, 1, 1, getOp("k"))},
		{2, api.Cmd{Kind: api.CmdStep, Proc: 1, Step: 2}}, {2, api.Cmd{Kind: api.CmdWant, Want: api.Want{Group: 3, Key: "k"}}},
	} {
		if b, is := p.m.Birth(one.index, one.c); is || b.Group != 0 || len(b.Members)+len(b.Cells) > 0 {
			t.Errorf("Birth(%d, %+v): %s, %v", one.index, one.c, short(b), is)
		}
	}
	if lies(p.d) != was {
		t.Error("the disk is changed")
	}
	p.same(t)
	splits(t, p, c)
}

func TestRowsOfTheMETADATA(t *testing.T) { // P18.5
	for _, frozen := range []bool{false, true} { // whatever it is
		p := tabletOf(t, 3, api.Tablet{Range: api.Range{Low: "b", High: "k"}, Epoch: 4, Frozen: frozen},
			cell("c", "", 7, ""), cell("c", "loc", 5, "old"), cell("c", "x", 7, "v"))
		for i, c := range []struct {
			key     string
			version uint64
		}{{"c", 8}, {"b", 1}, {"c", 9}, {"j\xff", 1}, {"c" + long(31), 1}, {"c" + long(31), 2}, {"b", 2}} {
			value := long(i * 40)
			p.gets(t, metaRow(1, i, c.key, value), api.Result{})
			l, e := p.m.Snapshot()
			must(t, e, api.OK)
			for _, want := range []api.Cell{cell(c.key, "", c.version, ""), cell(c.key, "loc", c.version, value)} {
				if !slices.Contains(l, want) {
					t.Fatalf("no %s in %s", short(want), short(l))
				}
			}
			p.changesNothing(t, metaRow(1, i, c.key, "other"), api.Result{})
		}
		for _, key := range []string{"a\xff", "a", "k", "k\x00", "z", long(32)} {
			p.changesNothing(t, metaRow(2, 0, key, "v"), refusal(api.ErrRange))
		}
		p.gets(t, metaRow(2, 0, "c", long(256)), api.Result{})
		if !slices.Contains(p.s.all(), cell("c", "x", 7, "v")) {
			t.Errorf("%s", short(p.s.all()))
		}
		p.anew(t)
	}
}

func TestRowsOfTheMETADATAThatWereChangedAsOftenAsTheyMayBe(t *testing.T) { // P18.5
	p := tabletOf(t, 3, api.Tablet{Range: api.Range{High: "k"}, Epoch: 4},
		cell("b", "", two40-1, ""), cell("c", "", two40, ""), cell("c", "loc", two40, "v"), cell("d", "", two40, ""))
	p.gets(t, metaRow(1, 1, "b", "v"), api.Result{})
	if !slices.Contains(p.s.all(), cell("b", "loc", two40, "v")) {
		t.Errorf("%s", short(p.s.all()))
	}
	for _, key := range []string{"b", "c", "d"} {
		p.changesNothing(t, metaRow(1, 2, key, "w"), refusal(api.ErrLong))
	}
	p.changesNothing(t, metaRow(1, 2, "z", "w"), refusal(api.ErrRange))
	p.gets(t, metaRow(1, 2, "e", "w"), api.Result{})
}

// logOf is the log of a store, as its disk stands.
func logOf(t *testing.T, d *disk.Disk) *wal.Wal {
	t.Helper()
	w, e := wal.Open(d.Copy(), "pw", 4096)
	must(t, e, api.OK)
	return w
}

// lastBatch is what the last record of a store's log has, without what is gone.
func lastBatch(t *testing.T, d *disk.Disk) []api.Cell {
	t.Helper()
	w := logOf(t, d)
	record, e := w.Get(w.Next() - 1)
	must(t, e, api.OK)
	l, e := cells.Decode(record)
	must(t, e, api.OK)
	return alive(newest(l))
}

func TestEachCommandIsOneBatch(t *testing.T) { // P18.5: of just what it changes
	p := tabletOf(t, 1000, api.Tablet{Epoch: 1})
	for i, c := range []api.Cmd{
		{},
		row(0, 1, 1, putOp("m", "v")),
		row(0, 1, 1, putOp("m", "v")),
		row(0, 2, 1, getOp("m")),
		row(0, 3, 2, getOp("m")),
		row(0, 3, 1, delOp("m")),
		metaRow(1, 0, "n", "v"),
		freeze(1, 1, 1),
		freeze(1, 1, 1),
		thaw(1, 2, 2),
		thaw(1, 3, 2),
		freeze(1, 3, 2),
		split(1, 4, 2, "\x00", 3),
		split(1, 4, 2, "k", 4),
		split(1, 4, 3, "k", 4),
		row(1, 1, 3, putOp("a", "v")),
	} {
		was, before := logOf(t, p.d).Next(), p.s.all()
		if _, e := p.try(t, p.s.applied+1, c); e != api.OK {
			continue
		}
		now := logOf(t, p.d).Next()
		if i == 13 { // the one split that is done: a Replace, which lasts at once
			if l := openStore(t, p.d.Copy(), 1000).Levels(); now != was || !slices.Equal(l, []int{1}) {
				t.Errorf("%d: from %d to %d records, %v", i, was, now, l)
			}
			p.d.Crash(nil)
			continue
		}
		changed := slices.DeleteFunc(p.s.all(), func(c api.Cell) bool { return slices.Contains(before, c) })
		if l := lastBatch(t, p.d); now != was+1 || !slices.Equal(l, changed) {
			t.Errorf("%d: from %d to %d records, the last one %s, not %s", i, was, now, short(l), short(changed))
		}
	}
	p.anew(t)
}

func TestSnapshotsAreInstalled(t *testing.T) { // P18.7
	from := tabletOf(t, 3, api.Tablet{Range: api.Range{Low: "b", High: "k"}, Epoch: 4})
	for i := range 20 {
		from.next(t, row(i%4, uint64(1+i/4), 4, putOp(string(rune('a'+i%12)), fmt.Sprint(i))))
	}
	from.next(t, freeze(3, 5, 4))
	l, e := from.m.Snapshot()
	must(t, e, api.OK)
	if !slices.Equal(l, from.s.all()) {
		t.Fatal(short(l))
	}
	for _, flush := range []int{1, 5, 1000} {
		p := tabletOf(t, flush, api.Tablet{Epoch: 9}, cell("zz", "", 1, ""), cell("zz", "x", 1, ""), cell("", "s2", 1, sessionBytes(99, api.Result{})))
		p.next(t, freeze(9, 9, 9))
		must(t, p.m.Install(l), api.OK)
		p.s = from.s.clone()
		p.same(t)
		p.d.Crash(nil) // as a Replace, it lasts at once
		p = p.anew(t)
		p.gets(t, freeze(3, 5, 9), api.Result{})
		p.gets(t, thaw(3, 6, 5), api.Result{})
		p.gets(t, row(3, 5, 5, getOp("b")), from.s.said[3].r)
		// What is installed again is as it was.
		must(t, p.m.Install(l), api.OK)
		p.s = from.s.clone()
		p.same(t)
	}
	if _, e := Open(openStore(t, disk.New(10), 5)); e != api.ErrNone {
		t.Errorf("%d", e)
	}
}

func TestSync(t *testing.T) { // P18.7
	p := tabletOf(t, 1000, api.Tablet{Epoch: 1})
	p.next(t, row(0, 1, 1, putOp("m", "v")))
	must(t, p.m.Sync(), api.OK)
	safe := p.s.clone()
	p.next(t, row(0, 2, 1, putOp("m", "w")))
	p.next(t, freeze(1, 0, 1))
	p.d.Crash(nil)
	p.s = safe
	p = p.anew(t)
	p.gets(t, row(0, 2, 1, getOp("m")), api.Result{Found: true, Value: "v", Version: 1})
	must(t, p.m.Sync(), api.OK)
	p.d.Crash(nil)
	p.anew(t)
}

// Rows of commands by choices.

var someKeys = []string{"a", "b", "b\x00", "c", "d", "e", "h", "j\xff", "k", "z"}

func anyOp(next func(int) int) api.Op {
	o := api.Op{Kind: 1 + next(5), Row: someKeys[next(len(someKeys))], Col: []string{"x", "y"}[next(2)]}
	values := []string{"", "u", "v", "w"}
	switch o.Kind {
	case api.OpPut:
		o.Value = values[next(4)]
	case api.OpCheck:
		o.Value, o.Has = values[next(4)], next(2) == 0
		if o.Has {
			o.Expect = values[next(4)]
		}
	}
	return o
}

// near is a number that is mostly n, and else close to it.
func near(next func(int) int, n uint64) uint64 {
	switch next(8) {
	case 0:
		return min(n+1, two40)
	case 1:
		return max(n, 1) - 1
	}
	return n
}

func anyCmd(next func(int) int, s *slow) api.Cmd {
	proc, step := max(s.proc, 1), s.step+1
	if next(4) == 0 {
		proc, step = proc+uint64(next(2)), next(3)
	}
	proc, step = min(proc, two40), min(step, 100)
	key := someKeys[next(len(someKeys))]
	switch next(16) {
	case 0:
		return freeze(proc, step, near(next, s.t.Epoch))
	case 1:
		return thaw(proc, step, near(next, min(s.t.Epoch+1, two40)))
	case 2:
		return split(proc, step, near(next, s.t.Epoch), key, 4+next(8))
	case 3:
		return metaRow(proc, step, key, key)
	case 4:
		return []api.Cmd{{}, {Kind: api.CmdStep, Proc: proc, Step: step}, {Kind: 9}, row(next(6)-1, 0, 1, getOp(key))}[next(4)]
	}
	client := next(4)
	return row(client, max(near(next, s.said[client].seq+1), 1), near(next, s.t.Epoch), anyOp(next))
}

// world is a few tablets, and all that was done to them.
type world struct {
	t     *testing.T
	next  func(int) int
	pairs []pair
	was   []api.Cmd
}

func anyWorld(t *testing.T, next func(int) int) *world {
	r := []api.Range{{}, {Low: "b"}, {High: "k"}, {Low: "b", High: "k"}}[next(4)]
	epoch := []uint64{1, 0, 127, two40 - 2}[next(4)]
	flush := []int{1, 2, 7, 1000}[next(4)]
	return &world{t: t, next: next, pairs: []pair{tabletOf(t, flush, api.Tablet{Range: r, Epoch: epoch})}}
}

func (w *world) step() {
	w.t.Helper()
	at := w.next(len(w.pairs))
	p := &w.pairs[at]
	switch w.next(24) {
	case 0:
		*p = p.anew(w.t)
	case 1:
		w.crash(p)
	case 2:
		must(w.t, p.m.Sync(), api.OK)
	case 3:
		w.install(p)
	case 4:
		w.splitOne(p)
	case 5, 6, 7, 8:
		if len(w.was) > 0 { // one that came already
			w.try(p, w.was[w.next(len(w.was))])
		}
	default:
		w.try(p, anyCmd(w.next, p.s))
	}
}

func (w *world) try(p *pair, c api.Cmd) {
	w.t.Helper()
	index := p.s.applied + 1
	if w.next(20) == 0 {
		index = uint64(w.next(40))
	}
	p.try(w.t, index, c)
	w.was = append(w.was, c)
}

func (w *world) crash(p *pair) {
	w.t.Helper()
	must(w.t, p.m.Sync(), api.OK)
	p.d.Crash(nil)
	*p = p.anew(w.t)
}

// install has a tablet be as any of them is.
func (w *world) install(p *pair) {
	w.t.Helper()
	other := w.pairs[w.next(len(w.pairs))]
	l, e := other.m.Snapshot()
	must(w.t, e, api.OK)
	if w.next(4) == 0 {
		at := w.next(len(l))
		l[at].Version, l[at].Gone = uint64(w.next(4)), w.next(4) == 0
	}
	if at := w.next(2 * len(l)); at < len(l) && w.next(4) == 0 {
		l = slices.Delete(l, at, at+1)
	}
	want, is := slowInstall(l)
	e = p.m.Install(l)
	if is != (e == api.OK) || !is && e != api.ErrForm {
		w.t.Fatalf("Install(%s): %d", short(l), e)
	}
	if is {
		p.s = want
	}
	p.same(w.t)
}

// splitOne has a tablet be frozen and split, where that may be.
func (w *world) splitOne(p *pair) {
	w.t.Helper()
	epoch, proc, r := p.s.t.Epoch, p.s.proc+1, p.s.t.Range
	key := someKeys[w.next(len(someKeys))]
	if len(w.pairs) == 5 || epoch+1 > two40 || proc > two40 || !slowHas(r, key) || key == r.Low {
		return
	}
	p.gets(w.t, freeze(proc, 0, epoch), api.Result{})
	w.pairs = append(w.pairs, splits(w.t, *p, split(proc, 1, epoch, key, 4)))
}

func TestAnythingDoneToAnyTablets(t *testing.T) { // P18.1 to P18.10
	for i := range 150 {
		w := anyWorld(t, rand.New(rand.NewSource(int64(i))).Intn)
		for range 60 {
			w.step()
		}
	}
}

func TestTheSameDoneIsTheSame(t *testing.T) { // R6
	done := func(seed int64) string {
		w := anyWorld(t, rand.New(rand.NewSource(seed)).Intn)
		for range 60 {
			w.step()
		}
		out := ""
		for _, p := range w.pairs {
			out += lies(p.d)
		}
		return out
	}
	for i := range 10 {
		if done(int64(i)) != done(int64(i)) {
			t.Errorf("%d: not the same", i)
		}
	}
}

func TestCommandsOfClientsThatComeAgain(t *testing.T) { // P18.8, P18.9 (W6): held against the model
	for i := range 24 {
		next := rand.New(rand.NewSource(int64(i))).Intn
		p := tabletOf(t, []int{1, 3, 8, 1000}[i%4], api.Tablet{Epoch: 5})
		m := model.New()
		seqs := map[int]uint64{}
		last := map[int]api.Cmd{}
		answer := map[int]api.Result{}
		for range 80 {
			client := next(4)
			if again := last[client]; next(2) == 0 && again.Seq > 0 {
				// By its Seq alone it is known: whatever else it asks for.
				if next(3) == 0 {
					again.Epoch, again.Op = uint64(next(9)), anyOp(next)
				}
				p.changesNothing(t, again, answer[client])
				continue
			}
			if seqs[client] > 1 && next(6) == 0 {
				p.changesNothing(t, row(client, seqs[client]-1, 5, anyOp(next)), refusal(api.ErrStale))
				continue
			}
			if next(6) == 0 {
				p.changesNothing(t, row(client, seqs[client]+1, 4+2*uint64(next(2)), anyOp(next)), refusal(api.ErrEpoch))
				continue
			}
			seqs[client] += uint64(1 + next(3))
			o := anyOp(next)
			last[client] = row(client, seqs[client], 5, o)
			answer[client] = m.Do(o)
			p.gets(t, last[client], answer[client])
		}
		if !slices.Equal(rowsOfStore(p), alive(m.Cells())) {
			t.Fatalf("%s, and the model has %s", short(rowsOfStore(p)), short(m.Cells()))
		}
	}
}

func rowsOfStore(p pair) []api.Cell {
	return slices.DeleteFunc(p.s.all(), func(c api.Cell) bool { return c.Row == "" })
}

func alive(l []api.Cell) []api.Cell {
	return slices.DeleteFunc(l, func(c api.Cell) bool { return c.Gone })
}

func TestOperationsWithinARangeAreTheModels(t *testing.T) { // P18.9 (W6, W4): and others change nothing
	for i := range 16 {
		next := rand.New(rand.NewSource(int64(i))).Intn
		r := api.Range{Low: "b", High: "j\xff"}
		p := tabletOf(t, []int{1, 3, 8, 1000}[i%4], api.Tablet{Range: r, Epoch: 5})
		m := model.New()
		for seq := range uint64(80) {
			o := anyOp(next)
			c := row(1, seq+1, 5, o)
			if o.Kind != api.OpSeek && !slowHas(r, o.Row) {
				p.changesNothing(t, c, refusal(api.ErrRange))
				continue
			}
			p.gets(t, c, m.Do(o))
		}
	}
}

func TestStepsOfABossThatComeAgain(t *testing.T) { // P18.8
	p := tabletOf(t, 3, api.Tablet{Epoch: 1}, cell("m", "", 1, ""))
	steps := []api.Cmd{
		freeze(1, 0, 1), split(1, 1, 1, "k", 4), metaRow(1, 2, "a", "1"), metaRow(1, 3, "b", "2"),
		freeze(2, 0, 2), metaRow(2, 1, "a", "3"), thaw(2, 3, 3), metaRow(2, 4, "a", "4"),
		freeze(7, 5, 3), thaw(7, 100, 4), freeze(8, 0, 4), split(8, 1, 4, "b", 5),
	}
	for i, c := range steps {
		p.gets(t, c, api.Result{})
		for _, again := range steps[:i+1] {
			p.changesNothing(t, again, api.Result{})
		}
	}
	if p.m.Tablet() != (api.Tablet{Range: api.Range{High: "b"}, Epoch: 5}) {
		t.Errorf("%+v", p.m.Tablet())
	}
}

func TestABornTabletKnowsWhatClientsWereAnswered(t *testing.T) { // P18.8, P18.10
	p := tabletOf(t, 3, api.Tablet{Epoch: 1})
	for client := range 4 {
		p.next(t, row(client, uint64(10+client), 1, putOp("m", "v")))
	}
	p.next(t, freeze(1, 0, 1))
	born := splits(t, p, split(1, 1, 1, "k", 4))
	for client := range 4 {
		want := api.Result{Version: uint64(1 + client)}
		born.changesNothing(t, row(client, uint64(10+client), 2, putOp("m", "v")), want)
		p.changesNothing(t, row(client, uint64(10+client), 2, putOp("m", "v")), want)
		born.changesNothing(t, row(client, uint64(9+client), 2, putOp("m", "v")), refusal(api.ErrStale))
	}
	born.gets(t, row(0, 11, 2, getOp("m")), api.Result{Found: true, Value: "v", Version: 4})
	p.gets(t, row(0, 11, 2, getOp("m")), refusal(api.ErrRange))
}

func TestATabletThatIsSplitTillNothingIsLeft(t *testing.T) { // P18.10
	for seed := range 10 {
		next := rand.New(rand.NewSource(int64(seed))).Intn
		pairs := []pair{tabletOf(t, 5, api.Tablet{Epoch: 1})}
		for i, key := range someKeys {
			pairs[0].next(t, row(i%4, uint64(1+i), 1, putOp(key, key)))
		}
		for range 30 {
			at := next(len(pairs))
			p, key := pairs[at], someKeys[next(len(someKeys))]
			if !slowHas(p.s.t.Range, key) || key == p.s.t.Range.Low {
				continue
			}
			p.next(t, freeze(p.s.proc+1, 0, p.s.t.Epoch))
			pairs = append(pairs, splits(t, p, split(p.s.proc, 1, p.s.t.Epoch, key, 4)))
		}
		var ranges []api.Range
		count := 0
		for _, p := range pairs {
			for _, other := range ranges {
				if keys.Meet(other, p.m.Tablet().Range) {
					t.Fatalf("%+v meets %+v", other, p.m.Tablet().Range)
				}
			}
			ranges = append(ranges, p.m.Tablet().Range)
			count += len(rowsOfStore(p))
		}
		if gap, is := keys.Gap(ranges); is || count != 2*len(someKeys) {
			t.Fatalf("%+v is not covered; there are %d cells", gap, count)
		}
	}
}

// keeps are ways in which a loss of power may leave a disk's files.
func keeps(d *disk.Disk) [][]int {
	files := d.List("")
	most := 0
	for _, name := range files {
		data, _ := d.Read(name)
		most = max(most, len(data)-d.Synced(name))
	}
	l := [][]int{nil, slices.Repeat([]int{-1}, len(files))}
	for n := 0; n <= most; n += 1 + most/25 {
		l = append(l, slices.Repeat([]int{n}, len(files)))
	}
	for i := range files {
		one := make([]int, len(files))
		one[i] = -1
		l = append(l, one)
	}
	return l
}

// lasts has what a loss of power leaves be one of these, whichever way it takes.
func lasts(t *testing.T, d *disk.Disk, flush int, allowed []*slow) {
	t.Helper()
	for _, keep := range keeps(d) {
		c := d.Copy()
		c.Crash(keep)
		m, e := Open(openStore(t, c, flush))
		must(t, e, api.OK)
		at := slices.IndexFunc(allowed, func(s *slow) bool { return s.applied == m.Applied() })
		if at < 0 {
			t.Fatalf("kept %v: %d is applied; it may be %d to %d", keep, m.Applied(), allowed[0].applied, allowed[len(allowed)-1].applied)
		}
		// It goes on as it would have.
		s := allowed[at].clone()
		sameAs(t, m, s)
		p := pair{d: c, flush: flush, m: m, s: s}
		p.next(t, row(0, 1000, s.t.Epoch, putOp("c", "on")))
		p.anew(t)
	}
}

func TestALossOfPowerAtAnyTime(t *testing.T) { // P18.11 (W8)
	for i := range 8 {
		next := rand.New(rand.NewSource(int64(i))).Intn
		p := tabletOf(t, []int{1, 2, 9, 1000}[i%4], api.Tablet{Epoch: 5})
		allowed := []*slow{p.s.clone()} // from the last Sync on
		for range 35 {
			r := p.s.t.Range
			switch next(10) {
			case 0:
				must(t, p.m.Sync(), api.OK)
				allowed = nil
			case 1: // what is installed is another history
				l := p.s.all()
				must(t, p.m.Install(l), api.OK)
				allowed = nil
			default:
				if _, e := p.try(t, p.s.applied+1, anyCmd(next, p.s)); e != api.OK {
					continue
				}
			}
			if p.s.t.Range != r {
				allowed = nil // a split lasts at once
			}
			allowed = append(allowed, p.s.clone())
			lasts(t, p.d, p.flush, allowed)
		}
	}
}

// moreRoom is a disk of the same files, with room for more.
func moreRoom(t *testing.T, d *disk.Disk) *disk.Disk {
	t.Helper()
	c := disk.New(1 << 23)
	for _, name := range d.List("") {
		data, e := d.Read(name)
		must(t, e, api.OK)
		must(t, c.Append(name, data[:d.Synced(name)]), api.OK)
		must(t, c.Sync(name), api.OK)
		must(t, c.Append(name, data[d.Synced(name):]), api.OK)
	}
	return c
}

// survives has a machine whose store met an error go on telling what it is, and
// answer an error to what it is to do.
func survives(t *testing.T, m *Machine) {
	t.Helper()
	x, applied := m.Tablet(), m.Applied()
	proc, step := m.Done()
	for _, c := range append(slices.Clip(oneOfEach), row(0, 1, 1, getOp("m")), row(0, 1, 1, seekOp(""))) {
		if c.Kind == api.CmdRow {
			c.Client, c.Seq = 3, 5000
		}
		if c.Epoch > 0 {
			c.Epoch += x.Epoch - 1
		}
		if c.Proc > 0 {
			c.Proc += proc
		}
		for index := applied; index < applied+3; index++ {
			if b, is := m.Birth(index, c); is || b.Group != 0 || len(b.Cells) > 0 {
				t.Errorf("Birth(%d, %+v): %s, %v", index, c, short(b), is)
			}
			want := api.ErrArg
			if index == applied+1 {
				want = api.ErrNil
			}
			if r, e := m.Apply(index, c); r != (api.Result{}) || e != want {
				t.Errorf("Apply(%d, %+v): %+v, %d", index, c, r, e)
			}
		}
	}
	if l, e := m.Snapshot(); len(l) > 0 || e != api.ErrNil {
		t.Errorf("Snapshot: %s, %d", short(l), e)
	}
	if e := m.Sync(); e != api.ErrNil {
		t.Errorf("Sync: %d", e)
	}
	if e := m.Install(fixed(x, 1, 0, 0, 1)); e != api.ErrNil {
		t.Errorf("Install: %d", e)
	}
	proc1, step1 := m.Done()
	if m.Tablet() != x || m.Applied() != applied || proc1 != proc || step1 != step {
		t.Errorf("%+v, %d, %d %d", m.Tablet(), m.Applied(), proc1, step1)
	}
}

func TestAMachineWhoseStoreIsBroken(t *testing.T) { // P18.5 to P18.7: its errors are the calls'
	for _, frozen := range []bool{false, true} {
		for _, spoil := range []api.Cmd{{}, metaRow(1, 0, "m", "v"), split(1, 0, 1, "k", 4)} {
			p := tabletOf(t, 1000, api.Tablet{Epoch: 1, Frozen: frozen}, cell("m", "", 1, ""), cell("m", "x", 1, "v"))
			must(t, p.d.Append("other", long(p.d.Free())), api.OK)
			if r, e := p.m.Apply(2, spoil); r != (api.Result{}) || e != api.ErrFull {
				t.Fatalf("%+v, %d", r, e)
			}
			survives(t, p.m)
			lasts(t, moreRoom(t, p.d), 1000, []*slow{p.s})
		}
	}
}

func TestNoRoomAtAnyTime(t *testing.T) { // P18.5, P18.11: the store's error is the call's
	full := 0
	for i := range 160 {
		next := rand.New(rand.NewSource(int64(i % 8))).Intn
		flush := []int{1, 4, 1000}[i%3]
		d := disk.New(400 + 20*i)
		s := openStore(t, d, flush)
		must(t, s.Replace(fixed(api.Tablet{Epoch: 5}, 1, 0, 0, 1)), api.OK)
		p := pair{d: d, flush: flush}.opened(t, s)
		allowed := []*slow{p.s.clone()}
		for range 60 {
			c, r, before := anyCmd(next, p.s), p.s.t.Range, p.s.clone()
			want, wantE := p.s.apply(p.s.applied+1, c)
			got, e := p.m.Apply(before.applied+1, c)
			if e != api.ErrFull && (got != want || e != wantE) {
				t.Fatalf("%+v, %d; not %+v, %d", got, e, want, wantE)
			}
			if p.s.t.Range != r && e == api.OK {
				allowed = nil
			}
			allowed = append(allowed, p.s.clone())
			if e == api.ErrFull {
				full++
				if got != (api.Result{}) {
					t.Fatalf("with ErrFull: %+v", got)
				}
				lasts(t, moreRoom(t, d), flush, allowed)
				survives(t, p.m)
				break
			}
		}
	}
	if full < 100 {
		t.Errorf("only %d disks were full", full)
	}
}

func TestInstallWithoutRoom(t *testing.T) { // P18.7: the machine is as it was, on its disk too
	l := append(fixed(api.Tablet{Epoch: 9}, 9, 0, 0, 9), cell("m", "", 1, long(300)))
	for room := 400; room < 1200; room += 20 {
		d := disk.New(room)
		s := openStore(t, d, 1000)
		must(t, s.Replace(fixed(api.Tablet{Epoch: 5}, 1, 0, 0, 1)), api.OK)
		p := pair{d: d, flush: 1000}.opened(t, s)
		e := p.m.Install(l)
		was := p.s.clone()
		now, is := slowInstall(l)
		if !is || e != api.OK && e != api.ErrFull || e == api.ErrFull && room > 1100 || e == api.OK && room < 500 {
			t.Fatalf("with room for %d: %d", room, e)
		}
		if e == api.ErrFull {
			lasts(t, moreRoom(t, d), 1000, []*slow{was})
			continue
		}
		p.s = now
		p.same(t)
	}
	// Cells that no file takes: the store is not broken then.
	p := tabletOf(t, 1000, api.Tablet{Epoch: 5}, cell("m", "", 1, ""))
	was := lies(p.d)
	must(t, p.m.Install(append(fixed(api.Tablet{Epoch: 9}, 9, 0, 0, 9), cell("m", "", 1, long(40000)))), api.ErrLong)
	if lies(p.d) != was {
		t.Error("the disk is changed")
	}
	p.same(t)
	p.gets(t, row(0, 1, 5, putOp("m", "v")), api.Result{Version: 2})
}

func over(b []byte) string { return unsafe.String(unsafe.SliceData(b), len(b)) }

// passing makes texts over bytes that change when end is called: what was kept
// of them would change too.
type passing struct{ made [][]byte }

func (p *passing) text(s string) string {
	b := []byte(s)
	p.made = append(p.made, b)
	return over(b)
}

func (p *passing) cells(l []api.Cell) []api.Cell {
	l = slices.Clone(l)
	for i, c := range l {
		l[i].Row, l[i].Col, l[i].Value = p.text(c.Row), p.text(c.Col), p.text(c.Value)
	}
	return l
}

func (p *passing) cmd(c api.Cmd) api.Cmd {
	c.Key, c.Value, c.Want.Key = p.text(c.Key), p.text(c.Value), p.text(c.Want.Key)
	c.Op.Row, c.Op.Col = p.text(c.Op.Row), p.text(c.Op.Col)
	c.Op.Value, c.Op.Expect = p.text(c.Op.Value), p.text(c.Op.Expect)
	return c
}

func (p *passing) end() {
	for _, b := range p.made {
		for i := range b {
			b[i] = '#'
		}
	}
}

func TestWhatIsHandedInIsNotKept(t *testing.T) { // R5
	x := api.Tablet{Range: api.Range{Low: "b", High: "y"}, Epoch: 1}
	rows := []api.Cell{
		cell("", "s2", 1, sessionBytes(7, api.Result{Found: true, Row: "row", Value: "value", Version: 3})),
		cell("dd", "", 1, "count"), cell("dd", "x", 1, "value"),
	}
	want, e := slowCells(x, 1, rows)
	must(t, e, api.OK)
	for _, flush := range []int{1, 1000} {
		var pass passing
		got, e := Cells(api.Tablet{Range: api.Range{Low: pass.text("b"), High: pass.text("y")}, Epoch: 1}, 1, pass.cells(rows))
		must(t, e, api.OK)
		pass.end()
		if !slices.Equal(got, want) {
			t.Fatal(short(got))
		}
		p := tabletOf(t, flush, api.Tablet{Epoch: 9})
		list := pass.cells(want)
		must(t, p.m.Install(list), api.OK)
		pass.end()
		list[0] = api.Cell{}
		p.s, _ = slowInstall(want)
		p.same(t)
		for i, c := range []api.Cmd{
			row(0, 1, 1, putOp("mm", "some value")),
			row(0, 2, 1, getOp("mm")),
			row(1, 1, 1, checkOp("mm", true, "some value", "another value")),
			row(1, 2, 1, seekOp("c")),
			metaRow(1, 0, "nn", "where it is"),
			freeze(1, 1, 1),
			split(1, 2, 1, "kk", 4),
			row(2, 8, 2, seekOp("c")),
			row(2, 9, 2, delOp("dd")),
		} {
			with := pass.cmd(c)
			p.m.Ready(c.Epoch, with.Op)
			b, is := p.m.Birth(p.s.applied+1, with)
			born, wantIs := p.s.birth(p.s.applied+1, c)
			r, e := p.m.Apply(p.s.applied+1, with)
			pass.end()
			if is != wantIs || !slices.Equal(b.Cells, born.Cells) {
				t.Fatalf("%d: born %s", i, short(b))
			}
			if wantR, wantE := p.s.apply(p.s.applied+1, c); r != wantR || e != wantE {
				t.Fatalf("%d: %s, %d", i, short(r), e)
			}
			p.same(t)
		}
		p.anew(t)
	}
}

func TestWhatIsHandedInIsNotChanged(t *testing.T) { // R5: nor the room behind its ends
	x := api.Tablet{Epoch: 1}
	room := []api.Cell{
		cell("m", "x", 2, "v"), cell("", "s1", 9, sessionBytes(1, api.Result{})), cell("m", "", 2, ""), cell("m", "x", 1, "u"),
		cell("guard", "", 1, ""), cell("guard", "", 2, ""), cell("guard", "", 3, ""), cell("guard", "", 4, ""), cell("guard", "", 5, ""),
	}
	was := slices.Clone(room)
	_, e := Cells(x, 1, room[:4])
	must(t, e, api.OK)
	if !slices.Equal(room, was) {
		t.Fatal(short(room))
	}
	room[1].Version = 1
	room = append(room[:4:4], append(fixed(x, 1, 0, 0, 1), room[4:]...)...)
	was = slices.Clone(room)
	for _, flush := range []int{1, 1000} {
		p := tabletOf(t, flush, api.Tablet{Epoch: 9})
		must(t, p.m.Install(room[:8]), api.OK)
		for i, c := range oneOfEach {
			p.m.Birth(uint64(2+i), c)
			_, e := p.m.Apply(uint64(2+i), c)
			must(t, e, api.OK)
		}
		must(t, p.m.Install(room[:7]), api.ErrForm)
		if !slices.Equal(room, was) {
			t.Fatal(short(room))
		}
	}
}

// shares says whether two texts do; those of one byte have no memory of their own.
func shares(a, b string) bool {
	begins := func(s string) uintptr { return uintptr(unsafe.Pointer(unsafe.StringData(s))) }
	return len(a) > 1 && len(b) > 1 && begins(a) < begins(b)+uintptr(len(b)) && begins(b) < begins(a)+uintptr(len(a))
}

func TestAnswersAreNewMemory(t *testing.T) { // R5
	x := api.Tablet{Range: api.Range{Low: "bb", High: "yy"}, Epoch: 1, Frozen: true}
	var pass passing // texts of one word that are apart
	rows := pass.cells([]api.Cell{
		cell("", "s2", 1, sessionBytes(7, api.Result{Found: true, Row: "row", Value: "value", Version: 3})),
		cell("dddd", "", 1, ""), cell("dddd", "xxxx", 1, "vvvv"), cell("mmmm", "", 1, "count"), cell("mmmm", "xxxx", 1, "vvvv"),
	})
	p := tabletOf(t, 1000, x, rows...)
	var all []string
	add := func(l ...string) { all = append(all, l...) }
	addCells := func(l []api.Cell) {
		for _, c := range l {
			add(c.Row, c.Col, c.Value)
		}
	}
	addCells(rows)
	for _, c := range p.m.own {
		add(c.Row, c.Col, c.Value)
	}
	at := split(1, 0, 1, "kkkk", 4)
	add(at.Key)
	seek := row(2, 8, 1, api.Op{Kind: api.OpSeek, Row: "cccc", Col: "xxxx"})
	index := uint64(2)
	do := func(c api.Cmd) {
		t.Helper()
		c = pass.cmd(c)
		add(c.Op.Row, c.Op.Value, c.Key)
		r, e := p.m.Apply(index, c)
		must(t, e, api.OK)
		index++
		add(r.Row, r.Value)
	}
	for range 2 {
		r, _, _ := p.m.Look(2, 7)
		add(r.Row, r.Value)
		y := p.m.Tablet()
		add(y.Range.Low, y.Range.High)
		l, e := p.m.Snapshot()
		must(t, e, api.OK)
		addCells(l)
		l, e = Cells(x, 1, rows)
		must(t, e, api.OK)
		for _, c := range l {
			add(c.Row, c.Value)
		}
		b, is := p.m.Birth(index, at)
		if !is {
			t.Fatal("nothing is born")
		}
		for _, c := range b.Cells {
			add(c.Row, c.Value)
		}
	}
	do(thaw(1, 0, 2))
	seek.Epoch = 2
	for range 3 { // once anew, and then again
		do(seek)
	}
	for range 2 {
		r, _, _ := p.m.Look(2, 8)
		add(r.Row, r.Value)
	}
	for seq := range uint64(2) {
		do(row(1, 1+seq, 2, api.Op{Kind: api.OpGet, Row: "mmmm", Col: "xxxx"}))
	}
	do(row(0, 1, 2, api.Op{Kind: api.OpCheck, Row: "mmmm", Col: "xxxx", Value: "other"}))
	for i, a := range all {
		for j, b := range all {
			if i < j && shares(a, b) {
				t.Fatalf("%d and %d share %q", i, j, a)
			}
		}
	}
}

func TestListsThatAreAnsweredAndChanged(t *testing.T) { // R5
	x := api.Tablet{Epoch: 1, Frozen: true}
	p := tabletOf(t, 1000, x, cell("m", "", 1, ""), cell("m", "x", 1, "v"), cell("", "s0", 1, sessionBytes(1, api.Result{})))
	spoil := func(l []api.Cell) {
		for i := range l[:cap(l)] {
			l[:cap(l)][i] = cell("#", "#", 77, "#")
		}
	}
	l, e := p.m.Snapshot()
	must(t, e, api.OK)
	list := slices.Clone(l)
	spoil(l)
	p.same(t)
	must(t, p.m.Install(list), api.OK)
	spoil(list)
	p.same(t)
	at := split(1, 0, 1, "k", 4)
	b, _ := p.m.Birth(2, at)
	spoil(b.Cells)
	p.same(t)
	rows := []api.Cell{cell("m", "", 1, "")}
	one, e := Cells(x, 1, rows)
	must(t, e, api.OK)
	spoil(one)
	if rows[0] != cell("m", "", 1, "") {
		t.Error(short(rows))
	}
	two, e := Cells(x, 1, rows)
	must(t, e, api.OK)
	spoil(rows)
	if two[4] != cell("m", "", 1, "") {
		t.Error(short(two))
	}
	splits(t, p, at)
}

func TestManyCommandsInTime(t *testing.T) { // R1
	const most = uint64(1000)
	for _, flush := range []int{8, 64, 1024} {
		d := disk.New(1 << 30)
		s := openStore(t, d, flush)
		l, e := slowCells(api.Tablet{Epoch: 1}, 1, nil)
		must(t, e, api.OK)
		must(t, s.Replace(l), api.OK)
		m, e := Open(s)
		must(t, e, api.OK)
		for i := range most {
			o := putOp(fmt.Sprintf("%04d", i*7919%most), "v")
			if r, e := m.Apply(2+i, row(int(i%4), 1+i/4, 1, o)); e != api.OK || r != (api.Result{Version: 1}) {
				t.Fatalf("%d: %+v, %d", i, r, e)
			}
		}
		b, is := m.Birth(2+most, split(1, 0, 1, "0500", 4))
		if is {
			t.Fatal("it is not frozen")
		}
		_, e = m.Apply(2+most, freeze(1, 0, 1))
		must(t, e, api.OK)
		b, is = m.Birth(3+most, split(1, 1, 1, "0500", 4))
		if !is || len(b.Cells) != 4+4+int(most) {
			t.Fatalf("%d cells, %v", len(b.Cells), is)
		}
		_, e = m.Apply(3+most, split(1, 1, 1, "0500", 4))
		must(t, e, api.OK)
		must(t, m.Install(b.Cells), api.OK)
		if m.Tablet() != (api.Tablet{Range: api.Range{Low: "0500"}, Epoch: 2}) || m.Applied() != 1 {
			t.Fatalf("%+v, %d", m.Tablet(), m.Applied())
		}
	}
}

func FuzzTabletsDoAsTheWordsSay(f *testing.F) { // P18.1 to P18.10, R1
	f.Add([]byte("0000 a tablet is frozen, split at a key, and thawed again, and what comes twice is done once"))
	f.Add([]byte{0, 0, 3, 4, 9, 1, 9, 6, 5, 5, 20, 0, 1, 2, 3, 0, 1, 2, 9, 9, 4, 0, 3, 1, 1, 1, 1})
	f.Add([]byte{3, 1, 2, 0, 4, 5, 0, 10, 7, 2, 3, 0, 0, 3, 1, 1, 2, 3, 4, 5, 6, 7, 8, 9, 10, 11, 12})
	f.Fuzz(func(t *testing.T, told []byte) {
		told = told[:min(len(told), 1<<9)] // the slow one is too slow for more
		next := func(n int) int {
			if len(told) == 0 {
				return 0
			}
			v := int(told[0]) % n
			told = told[1:]
			return v
		}
		w := anyWorld(t, next)
		for len(told) > 0 {
			w.step()
		}
	})
}
