package skip

import (
	"bytes"
	"iter"
	"math"
	"math/rand"
	"slices"
	"strings"
	"testing"
	"unsafe"

	"acreage/api"
)

// slow is a list as the chapter words it: cells with their heights, as they
// were put, and all that it tells worked out anew each time.
type slow struct {
	items []slowItem
}

type slowItem struct {
	cell   api.Cell
	height int
}

func slowMayBe(c api.Cell) bool {
	switch {
	case len(c.Row) > 32, len(c.Col) > 16, c.Col == "" && c.Row == "":
		return false
	case c.Version == 0, c.Version > 1<<40:
		return false
	}
	return len(c.Value) <= 1<<16 && !(c.Gone && c.Value != "")
}

func (s *slow) put(c api.Cell, height int) api.Errno {
	if !slowMayBe(c) || height < 1 || height > 12 {
		return api.ErrArg
	}
	for k := range s.items {
		x := &s.items[k].cell
		if x.Row == c.Row && x.Col == c.Col && x.Version == c.Version {
			*x = c
			return api.OK
		}
	}
	s.items = append(s.items, slowItem{c, height})
	return api.OK
}

// slowAhead tells whether a stands ahead of b, in the document's words.
func slowAhead(a, b api.Cell) bool {
	if by := bytes.Compare([]byte(a.Row), []byte(b.Row)); by != 0 {
		return by < 0
	}
	if by := bytes.Compare([]byte(a.Col), []byte(b.Col)); by != 0 {
		return by < 0
	}
	return a.Version > b.Version
}

func (s *slow) all() []api.Cell {
	var l []api.Cell
	for _, x := range s.items {
		at := 0
		for at < len(l) && slowAhead(l[at], x.cell) {
			at++
		}
		l = slices.Insert(l, at, x.cell)
	}
	return l
}

func (s *slow) from(row, col string) []api.Cell {
	var l []api.Cell
	for _, c := range s.all() {
		if c.Row > row || c.Row == row && c.Col >= col {
			l = append(l, c)
		}
	}
	return l
}

func (s *slow) get(row, col string) (api.Cell, bool) {
	var newest api.Cell
	is := false
	for _, x := range s.items {
		if c := x.cell; c.Row == row && c.Col == col && c.Version > newest.Version {
			newest, is = c, true
		}
	}
	return newest, is
}

func (s *slow) heights() []int {
	l := make([]int, 12)
	for n := range l {
		for _, x := range s.items {
			if x.height > n {
				l[n]++
			}
		}
	}
	return l
}

// texts are places to ask for: those of the cells, and beside them.
func (s *slow) texts() []string {
	l := []string{"", "\x00", "\xff", strings.Repeat("\xff", 40)}
	for _, x := range s.items {
		for _, t := range []string{x.cell.Row, x.cell.Col} {
			l = append(l, t, t+"\x00")
			if t != "" {
				l = append(l, t[:len(t)-1], t[:len(t)-1]+string([]byte{t[len(t)-1] - 1}))
			}
		}
	}
	slices.Sort(l)
	return slices.Compact(l)
}

// same holds a list against the words, by all that it can tell.
func same(t *testing.T, l *List, s *slow) {
	t.Helper()
	tells(t, l.All(), s.all()...)
	if n := l.Len(); n != len(s.items) {
		t.Fatalf("Len = %d, not %d", n, len(s.items))
	}
	if h, want := l.Heights(), s.heights(); !slices.Equal(h, want) {
		t.Fatalf("Heights = %v, not %v", h, want)
	}
	for level := range 12 {
		shortcuts(t, l, s, level)
	}
}

// shortcuts looks whether a level has the towers that are high enough for it.
func shortcuts(t *testing.T, l *List, s *slow, level int) {
	t.Helper()
	at := l.head.next[level]
	for _, c := range s.all() {
		if !slices.ContainsFunc(s.items, func(x slowItem) bool { return x.cell == c && x.height > level }) {
			continue
		}
		if at == nil || at.cell != c {
			t.Fatalf("%v is not where the level %d has it", c, level)
		}
		at = at.next[level]
	}
	if at != nil {
		t.Fatalf("the level %d has %v", level, at.cell)
	}
}

// sameAt holds it against them at the places of these texts too.
func sameAt(t *testing.T, l *List, s *slow, texts []string) {
	t.Helper()
	same(t, l, s)
	for _, row := range texts {
		for _, col := range texts {
			want, wantIs := s.get(row, col)
			mustGet(t, l, row, col, want, wantIs)
			tells(t, l.From(row, col), s.from(row, col)...)
		}
	}
}

func tells(t *testing.T, seq iter.Seq[api.Cell], want ...api.Cell) {
	t.Helper()
	if got := slices.Collect(seq); !slices.Equal(got, want) {
		t.Fatalf("told %v, not %v", got, want)
	}
}

func must(t *testing.T, got, want api.Errno) {
	t.Helper()
	if got != want {
		t.Fatalf("answered %d, not %d", got, want)
	}
}

func mustGet(t *testing.T, l *List, row, col string, want api.Cell, wantIs bool) {
	t.Helper()
	if c, is := l.Get(row, col); c != want || is != wantIs {
		t.Fatalf("Get(%q, %q) = %v, %t, not %v, %t", row, col, c, is, want, wantIs)
	}
}

// cell is that of a place, with a value that tells its version.
func cell(row, col string, version uint64) api.Cell {
	return api.Cell{Row: row, Col: col, Version: version, Value: string([]byte{'v', byte(version)})}
}

func gone(row, col string, version uint64) api.Cell {
	return api.Cell{Row: row, Col: col, Version: version, Gone: true}
}

// of is a list of these cells, of mixed heights, and the same one in words.
func of(t *testing.T, cells ...api.Cell) (*List, *slow) {
	t.Helper()
	l, s := New(), &slow{}
	for k, c := range cells {
		height := 1 + k*5%12
		must(t, l.Put(c, height), s.put(c, height))
	}
	same(t, l, s)
	return l, s
}

func TestTheChaptersExamples(t *testing.T) { // P8.1 to P8.3
	a1, a2, b1 := api.Cell{Row: "a", Col: "x", Version: 1}, api.Cell{Row: "a", Col: "x", Version: 2}, api.Cell{Row: "b", Col: "x", Version: 1}
	l := New()
	must(t, l.Put(b1, 3), api.OK)
	must(t, l.Put(a1, 1), api.OK)
	must(t, l.Put(a2, 12), api.OK)
	tells(t, l.All(), a2, a1, b1)
	mustGet(t, l, "a", "x", a2, true)
	mustGet(t, l, "a", "y", api.Cell{}, false)
	mustGet(t, l, "b", "x", b1, true)
	if l.Len() != 3 {
		t.Errorf("Len = %d", l.Len())
	}
	tells(t, l.From("a", "y"), b1)
	tells(t, l.From("", ""), a2, a1, b1)
	tells(t, l.From("b", "x"), b1)
	tells(t, l.From("c", ""))
	if h := l.Heights(); !slices.Equal(h, []int{3, 2, 2, 1, 1, 1, 1, 1, 1, 1, 1, 1}) {
		t.Errorf("Heights = %v", h)
	}
	must(t, l.Put(gone("a", "x", 2), 1), api.OK)
	mustGet(t, l, "a", "x", gone("a", "x", 2), true)
	if l.Len() != 3 {
		t.Errorf("Len = %d", l.Len())
	}
	must(t, l.Put(a1, 0), api.ErrArg)
	must(t, l.Put(a1, 13), api.ErrArg)
	must(t, l.Put(api.Cell{Row: "a", Col: "x"}, 1), api.ErrArg)
}

func TestANewListHasNoCells(t *testing.T) { // P8.1 to P8.3
	l, s := New(), &slow{}
	sameAt(t, l, s, []string{"", "a", "\xff"})
	if h := l.Heights(); !slices.Equal(h, make([]int, 12)) {
		t.Errorf("Heights = %v", h)
	}
	other := New()
	must(t, other.Put(cell("a", "x", 1), 12), api.OK)
	sameAt(t, l, s, []string{"", "a", "x"})
}

func TestHeightsAreFrom1To12(t *testing.T) { // P8.1, P8.3, R1, R2
	for height := 1; height <= 12; height++ {
		l := New()
		must(t, l.Put(cell("a", "x", 1), height), api.OK)
		want := make([]int, 12)
		for n := range height {
			want[n] = 1
		}
		if h := l.Heights(); !slices.Equal(h, want) {
			t.Errorf("of the height %d: Heights = %v", height, h)
		}
		tells(t, l.All(), cell("a", "x", 1))
	}
	l, s := of(t, cell("a", "x", 1), cell("b", "x", 1))
	for _, height := range []int{0, 13, -1, 14, -12, 255, 257, 1<<32 + 1, math.MaxInt, math.MinInt} {
		must(t, l.Put(cell("c", "x", 1), height), api.ErrArg)
		must(t, l.Put(gone("a", "x", 1), height), api.ErrArg)
		sameAt(t, l, s, s.texts())
	}
}

func TestCellsThatMayNotBeAreNotPut(t *testing.T) { // P8.1, R1, R2
	l, s := of(t, cell("a", "x", 1), cell("b", "x", 1))
	for _, c := range []api.Cell{
		{},
		{Version: 1},
		{Row: "a", Col: "x"},
		{Row: "a", Col: "x", Version: 1<<40 + 1},
		{Row: "a", Col: "x", Version: math.MaxUint64},
		{Row: strings.Repeat("a", 33), Col: "x", Version: 1},
		{Row: "a", Col: strings.Repeat("x", 17), Version: 1},
		{Row: "a", Col: "x", Version: 1, Value: strings.Repeat("v", 1<<16+1)},
		{Row: "a", Col: "x", Version: 1, Value: "v", Gone: true},
	} {
		for _, height := range []int{1, 12, 0, 13} {
			must(t, l.Put(c, height), api.ErrArg)
		}
		sameAt(t, l, s, s.texts())
	}
}

func TestCellsAtTheEdgesArePut(t *testing.T) { // P8.1, P8.2
	l, s := of(t,
		api.Cell{Col: "x", Version: 1},
		api.Cell{Row: "a", Version: 7},
		api.Cell{Row: strings.Repeat("\xff", 32), Col: strings.Repeat("\xff", 16), Version: 1 << 40, Value: strings.Repeat("v", 1<<16)},
		api.Cell{Row: strings.Repeat("\xff", 32), Col: strings.Repeat("\xff", 16), Version: 1<<40 - 1},
		api.Cell{Row: "\x00", Col: "\x00", Version: 1, Gone: true},
		api.Cell{Row: "a", Col: "x", Version: 1 << 40, Gone: true},
	)
	if l.Len() != 6 {
		t.Fatalf("Len = %d", l.Len())
	}
	sameAt(t, l, s, s.texts())
}

func TestACellTakesThePlaceOfOneLikeIt(t *testing.T) { // P8.1, P8.3
	kinds := []api.Cell{cell("b", "x", 2), gone("b", "x", 2), {Row: "b", Col: "x", Version: 2}, {Row: "b", Col: "x", Version: 2, Value: "other"}}
	for was := 1; was <= 12; was++ {
		for now := 1; now <= 12; now++ {
			l, s := of(t, cell("a", "x", 2), cell("b", "w", 2), cell("b", "x", 3), cell("b", "x", 1), cell("b", "y", 2), cell("c", "x", 2))
			for k, c := range kinds {
				height := now
				if k == 0 {
					height = was
				}
				must(t, l.Put(c, height), s.put(c, height))
				same(t, l, s)
				mustGet(t, l, "b", "x", cell("b", "x", 3), true)
			}
		}
	}
}

func TestTheNewestOfAPlaceMayBeGone(t *testing.T) { // P8.1, P8.2
	l, s := of(t, cell("a", "x", 1))
	must(t, l.Put(gone("a", "x", 2), 1), s.put(gone("a", "x", 2), 1))
	mustGet(t, l, "a", "x", gone("a", "x", 2), true)
	must(t, l.Put(cell("a", "x", 2), 5), s.put(cell("a", "x", 2), 5))
	mustGet(t, l, "a", "x", cell("a", "x", 2), true)
	must(t, l.Put(gone("a", "x", 2), 12), s.put(gone("a", "x", 2), 12))
	mustGet(t, l, "a", "x", gone("a", "x", 2), true)
	must(t, l.Put(gone("a", "x", 1), 12), s.put(gone("a", "x", 1), 12))
	mustGet(t, l, "a", "x", gone("a", "x", 2), true)
	sameAt(t, l, s, s.texts())
}

func TestVersionsOfAPlaceFall(t *testing.T) { // P8.1 to P8.4
	versions := []uint64{1, 2, 3, 9, 255, 256, 1 << 32, 1<<40 - 1, 1 << 40}
	up := slices.Clone(versions)
	down := slices.Clone(versions)
	slices.Reverse(down)
	mixed := []uint64{256, 1 << 40, 1, 3, 1<<40 - 1, 255, 2, 1 << 32, 9}
	var want []api.Cell
	for _, v := range down {
		want = append(want, cell("m", "x", v))
	}
	for _, order := range [][]uint64{up, down, mixed} {
		for first := 1; first <= 12; first++ {
			l := New()
			newest := uint64(0)
			for k, v := range order {
				newest = max(newest, v)
				must(t, l.Put(cell("m", "x", v), 1+(first+k*7)%12), api.OK)
				mustGet(t, l, "m", "x", cell("m", "x", newest), true)
			}
			tells(t, l.All(), want...)
			tells(t, l.From("m", "x"), want...)
			tells(t, l.From("m", "x\x00"))
		}
	}
}

func TestAPlaceWithoutCells(t *testing.T) { // P8.2, P8.3
	l, s := of(t, cell("b", "x", 1), cell("b", "", 3), cell("d", "m", 2), cell("d", "m", 1), cell("d", "o", 2), cell("", "own", 1))
	for _, place := range [][2]string{
		{"", ""}, {"", "owm"}, {"", "own\x00"}, // about the row of the tablet's own cells
		{"a", "x"}, {"b", "w"}, {"b", "y"}, {"c", "x"}, {"d", ""}, {"d", "n"}, // between two
		{"d", "p"}, {"e", "x"}, {"\xff", "\xff"}, // behind the last one
		{"x", "b"}, {"m", "d"}, {"bx", ""}, {"", "bx"}, // parts that stand elsewhere
		{strings.Repeat("d", 1000), "m"}, {"d", strings.Repeat("m", 1000)}, // texts that no cell may have
	} {
		mustGet(t, l, place[0], place[1], api.Cell{}, false)
		tells(t, l.From(place[0], place[1]), s.from(place[0], place[1])...)
	}
	mustGet(t, l, "", "own", cell("", "own", 1), true)
	mustGet(t, l, "b", "", cell("b", "", 3), true)
	mustGet(t, l, "d", "m", cell("d", "m", 2), true)
	mustGet(t, l, "d", "o", cell("d", "o", 2), true)
}

func TestFromBeginsAtAPlace(t *testing.T) { // P8.3
	own, b0, bx, m2, m1, o2 := cell("", "own", 1), cell("b", "", 3), cell("b", "x", 1), cell("d", "m", 2), cell("d", "m", 1), gone("d", "o", 2)
	l, s := of(t, bx, b0, m1, m2, o2, own)
	tells(t, l.From("", ""), own, b0, bx, m2, m1, o2)
	tells(t, l.From("", "own"), own, b0, bx, m2, m1, o2)
	tells(t, l.From("", "z"), b0, bx, m2, m1, o2)
	tells(t, l.From("b", ""), b0, bx, m2, m1, o2)
	tells(t, l.From("b", "a"), bx, m2, m1, o2)
	tells(t, l.From("b", "x"), bx, m2, m1, o2)
	tells(t, l.From("c", "z"), m2, m1, o2)
	tells(t, l.From("d", "m"), m2, m1, o2)
	tells(t, l.From("d", "n"), o2)
	tells(t, l.From("d", "o"), o2)
	tells(t, l.From("d", "o\x00"))
	tells(t, l.From("e", ""))
	sameAt(t, l, s, s.texts())
}

func TestHeightsCountCellsOnce(t *testing.T) { // P8.1 to P8.3
	l := New()
	for round, height := range []int{4, 12, 1} {
		for k := range 5 {
			must(t, l.Put(cell("r", "x", uint64(k+1)), height), api.OK)
			must(t, l.Put(gone("r", "x", uint64(k+1)), 13-height), api.OK)
		}
		if h := l.Heights(); !slices.Equal(h, []int{5, 5, 5, 5, 0, 0, 0, 0, 0, 0, 0, 0}) || l.Len() != 5 {
			t.Fatalf("in the round %d: Heights = %v, Len = %d", round, h, l.Len())
		}
	}
}

func TestHeightsAndOrderChangeNothing(t *testing.T) { // P8.4
	cells := []api.Cell{cell("a", "x", 1), cell("a", "x", 2), gone("a", "y", 1), cell("b", "", 1), cell("", "x", 4)}
	_, s := of(t, cells...)
	texts := s.texts()
	r := rand.New(rand.NewSource(84))
	try := func(order []int) {
		for _, height := range []func() int{
			func() int { return 1 }, func() int { return 12 }, func() int { return 1 + r.Intn(12) },
		} {
			l := New()
			for _, k := range order {
				must(t, l.Put(cells[k], height()), api.OK)
			}
			tells(t, l.All(), s.all()...)
			for _, row := range texts {
				for _, col := range texts {
					want, is := s.get(row, col)
					mustGet(t, l, row, col, want, is)
					tells(t, l.From(row, col), s.from(row, col)...)
				}
			}
		}
	}
	var orders func(done []int)
	orders = func(done []int) {
		if len(done) == len(cells) {
			try(done)
		}
		for k := range cells {
			if !slices.Contains(done, k) {
				orders(append(slices.Clone(done), k))
			}
		}
	}
	orders(nil)
}

// seven are the cells of a list for going through.
func seven(t *testing.T) (*List, *slow) {
	t.Helper()
	return of(t, cell("f", "x", 1), cell("b", "x", 2), cell("b", "x", 1), cell("d", "", 5), cell("d", "x", 1), gone("h", "x", 3), cell("", "x", 1))
}

func TestAnIteratorIsLeftEarlyAndGoneThroughAgain(t *testing.T) { // P8.3, R8
	l, s := seven(t)
	for name, x := range map[string]struct {
		seq  iter.Seq[api.Cell]
		want []api.Cell
	}{"All": {l.All(), s.all()}, "From": {l.From("b", "y"), s.from("b", "y")}} {
		for stop := range len(x.want) + 1 {
			var got []api.Cell
			for c := range x.seq {
				if len(got) == stop {
					break
				}
				got = append(got, c)
			}
			if !slices.Equal(got, x.want[:stop]) {
				t.Errorf("%s, left behind %d: %v", name, stop, got)
			}
			tells(t, x.seq, x.want...)
			tells(t, x.seq, x.want...)
		}
	}
}

func TestAnIteratorTellsWhatThereIsWhenItBegins(t *testing.T) { // P8.3, R8
	l, s := seven(t)
	all, from := l.All(), l.From("d", "")
	tells(t, all, s.all()...)
	for _, c := range []api.Cell{cell("a", "x", 1), cell("d", "x", 9), cell("z", "x", 1), gone("b", "x", 2), cell("h", "x", 3), cell("d", "", 9)} {
		must(t, l.Put(c, 3), s.put(c, 3))
		tells(t, all, s.all()...)
		tells(t, from, s.from("d", "")...)
	}
}

// meanwhile are cells that are put while others are told: ahead of all, behind
// all, between two, and in the place of one.
func meanwhile() []api.Cell {
	return []api.Cell{
		cell("", "a", 1), cell("", "x", 2), cell("b", "x", 3), cell("c", "x", 1), cell("d", "a", 1), cell("g", "x", 1), cell("h", "x", 1), cell("z", "x", 1),
		gone("", "x", 1), gone("b", "x", 2), gone("b", "x", 1), gone("d", "", 5), gone("d", "x", 1), gone("f", "x", 1), cell("h", "x", 3),
	}
}

func TestWhatIsPutMeanwhileIsNotTold(t *testing.T) { // P8.3, R8
	for stop := range 8 {
		for k, c := range meanwhile() {
			for _, height := range []int{1, 12} {
				l, s := seven(t)
				was := s.all()
				var got []api.Cell
				for x := range l.All() {
					got = append(got, x)
					if len(got) == stop {
						must(t, l.Put(c, height), s.put(c, height))
						mustGet(t, l, c.Row, c.Col, first(s.get(c.Row, c.Col)), true)
						same(t, l, s)
					}
				}
				if !slices.Equal(got, was) {
					t.Fatalf("%d, put behind %d: told %v, not %v", k, stop, got, was)
				}
				same(t, l, s)
			}
		}
	}
}

func first(c api.Cell, _ bool) api.Cell { return c }

func TestCellsArePutAtEachStep(t *testing.T) { // P8.3, R8
	l, s := seven(t)
	was := s.from("b", "")
	var got []api.Cell
	for x := range l.From("b", "") {
		for k, c := range meanwhile() {
			c.Version += uint64(len(got))
			must(t, l.Put(c, 1+k%12), s.put(c, 1+k%12))
		}
		must(t, l.Put(api.Cell{}, 1), api.ErrArg)
		same(t, l, s)
		got = append(got, x)
	}
	if !slices.Equal(got, was) {
		t.Fatalf("told %v, not %v", got, was)
	}
	sameAt(t, l, s, s.texts())
}

func TestSeveralGoThroughAtOnce(t *testing.T) { // P8.3, R8
	l, s := seven(t)
	was := s.all()
	all := l.All()
	var outer []api.Cell
	for a := range all {
		outer = append(outer, a)
		now := s.all()
		var inner []api.Cell
		for b := range all {
			inner = append(inner, b)
			if len(inner) == len(outer) {
				c := cell("d", "n", uint64(len(outer)))
				must(t, l.Put(c, len(outer)), s.put(c, len(outer)))
			}
			if len(inner) == 6 {
				break
			}
		}
		if !slices.Equal(inner, now[:6]) {
			t.Fatalf("the inner one told %v, not %v", inner, now[:6])
		}
		tells(t, all, s.all()...)
	}
	if !slices.Equal(outer, was) {
		t.Fatalf("the outer one told %v, not %v", outer, was)
	}
}

func TestNothingIsKeptOfWhoWentThrough(t *testing.T) { // R6, R8
	l, s := seven(t)
	leave := func(how func()) {
		t.Helper()
		func() {
			defer func() { _ = recover() }()
			how()
		}()
		if len(l.walks) != 0 {
			t.Errorf("%d are still under way", len(l.walks))
		}
		same(t, l, s)
	}
	leave(func() {
		for range l.All() {
		}
	})
	leave(func() {
		for range l.All() {
			break
		}
	})
	leave(func() {
		for range l.All() {
			panic("within")
		}
	})
	leave(func() {
		for range l.All() {
			for range l.From("b", "x") {
				must(t, l.Put(cell("b", "x", 2), 1), api.OK)
			}
		}
	})
	leave(func() {
		next, stop := iter.Pull(l.All())
		next()
		stop()
	})
	// One that no one goes on with is not kept either, from the next Put on.
	next, stop := iter.Pull(l.All())
	defer stop()
	next()
	must(t, l.Put(cell("b", "x", 2), 1), api.OK)
	if len(l.walks) != 0 {
		t.Errorf("%d are kept", len(l.walks))
	}
}

func TestAnIteratorThatTellsNobody(t *testing.T) { // R1
	l, s := seven(t)
	l.All()(nil)
	l.From("b", "x")(nil)
	same(t, l, s)
}

func TestAListThatIsNone(t *testing.T) { // R1, R3
	for name, l := range map[string]*List{"nil": nil, "of no call": {}} {
		for _, height := range []int{1, 12, 0, -1} {
			must(t, l.Put(cell("a", "x", 1), height), api.ErrNil)
			must(t, l.Put(api.Cell{}, height), api.ErrNil)
		}
		mustGet(t, l, "a", "x", api.Cell{}, false)
		mustGet(t, l, "", "", api.Cell{}, false)
		tells(t, l.All())
		tells(t, l.From("", ""))
		tells(t, l.From("a", "x"))
		l.All()(nil)
		if l.Len() != 0 || len(l.Heights()) != 0 {
			t.Errorf("%s: Len = %d, Heights = %v", name, l.Len(), l.Heights())
		}
	}
}

// over is a text that lies upon b, which a test then changes.
func over(b []byte) string { return unsafe.String(unsafe.SliceData(b), len(b)) }

func TestWhatIsHandedInIsNotKept(t *testing.T) { // R5
	row, col, value := []byte("row"), []byte("col"), []byte("value")
	spoil := func(with byte) {
		for _, b := range [][]byte{row, col, value} {
			for k := range b {
				b[k] = with
			}
		}
	}
	l, s := New(), &slow{}
	for _, v := range []string{"value", "other"} {
		copy(row, "row")
		copy(col, "col")
		copy(value, v)
		must(t, l.Put(api.Cell{Row: over(row), Col: over(col), Version: 1, Value: over(value)}, 2), api.OK)
		from := l.From(over(row), over(col))
		s.put(api.Cell{Row: "row", Col: "col", Version: 1, Value: v}, 2)
		for _, with := range []byte{0, 'r', 0xff} {
			spoil(with)
			sameAt(t, l, s, []string{"", "row", "col"})
			tells(t, from, s.all()...)
		}
	}
	// The room behind a text's end is not touched either.
	long := []byte("rowcolvalue and more")
	must(t, l.Put(api.Cell{Row: over(long[:3]), Col: over(long[3:6]), Version: 2, Value: over(long[6:11])}, 1), api.OK)
	if string(long) != "rowcolvalue and more" {
		t.Errorf("changed to %q", long)
	}
}

// lies tells where a text's bytes lie.
func lies(s string) *byte { return unsafe.StringData(s) }

func TestWhatIsToldIsNewMemory(t *testing.T) { // R5
	given := api.Cell{Row: "row", Col: "col", Version: 1, Value: "value"}
	l := New()
	must(t, l.Put(given, 1), api.OK)
	seen := map[*byte]bool{}
	look := func(c api.Cell) {
		t.Helper()
		if c != given {
			t.Errorf("told %v", c)
		}
		for _, s := range []string{c.Row, c.Col, c.Value} {
			if seen[lies(s)] {
				t.Errorf("%q shares its memory", s)
			}
			seen[lies(s)] = true
		}
	}
	look(given)
	look(l.head.next[0].cell)
	all := l.All()
	for range 2 {
		c, _ := l.Get("row", "col")
		look(c)
		for c := range all {
			look(c)
		}
		for c := range l.From("", "") {
			look(c)
		}
	}
	// Those that a walk takes with it, as a Put comes, are told as new ones too.
	must(t, l.Put(cell("a", "x", 1), 1), api.OK)
	for c := range all {
		if c.Row == "a" {
			must(t, l.Put(cell("b", "x", 1), 1), api.OK)
		} else {
			look(c)
		}
	}
	h := l.Heights()
	h[0], h[11] = 77, 77
	if h := l.Heights(); h[0] != 3 || h[11] != 0 {
		t.Errorf("Heights = %v", h)
	}
}

// twins are two lists to which the same is done, and the words for both; and
// the iterators under way, each with what it has yet to tell.
type twins struct {
	one, two *List
	words    slow
	under    []pulled
}

type pulled struct {
	next func() (api.Cell, bool)
	stop func()
	left []api.Cell
}

func (w *twins) put(t *testing.T, c api.Cell, height int) {
	t.Helper()
	want := w.words.put(c, height)
	must(t, w.one.Put(c, height), want)
	must(t, w.two.Put(c, height), want)
}

// begin goes on to the first cell, as an iterator that is pulled begins there.
func (w *twins) begin(t *testing.T, row, col string) {
	t.Helper()
	next, stop := iter.Pull(w.one.From(row, col))
	w.under = append(w.under, pulled{next, stop, w.words.from(row, col)})
	w.step(t, len(w.under)-1)
}

func (w *twins) step(t *testing.T, k int) {
	t.Helper()
	p := &w.under[k]
	c, is := p.next()
	if is != (len(p.left) > 0) || is && c != p.left[0] {
		t.Fatalf("told %v, %t, of %v", c, is, p.left)
	}
	if is {
		p.left = p.left[1:]
	}
}

func (w *twins) leave(k int) {
	w.under[k].stop()
	w.under = slices.Delete(w.under, k, k+1)
}

// act does to the lists what a few bytes say.
func (w *twins) act(t *testing.T, b [5]byte) {
	t.Helper()
	texts := []string{"", "a", "ab", "b", "\x00", "\xff", "a\x00", strings.Repeat("k", 33)}
	row, col := texts[b[1]%8], texts[b[1]>>3%8]
	switch b[0] % 8 {
	case 0, 1, 2, 3:
		c := api.Cell{Row: row, Col: col, Version: uint64(b[2] % 8), Gone: b[3]&1 != 0}
		if b[3]&2 != 0 {
			c.Value = string(b[3:])
		}
		w.put(t, c, int(b[4]%16)-1)
	case 4:
		want, is := w.words.get(row, col)
		mustGet(t, w.one, row, col, want, is)
		tells(t, w.one.From(row, col), w.words.from(row, col)...)
	case 5:
		if len(w.under) < 5 {
			w.begin(t, row, col)
		}
	case 6:
		if len(w.under) > 0 {
			w.step(t, int(b[1])%len(w.under))
		}
	default:
		if b[2]%4 == 0 && len(w.under) > 0 {
			w.leave(int(b[1]) % len(w.under))
		}
	}
}

// run does all that the bytes say, and holds the lists against the words.
func run(t *testing.T, b []byte) {
	w := &twins{one: New(), two: New()}
	for ; len(b) >= 5; b = b[5:] {
		w.act(t, [5]byte(b))
		same(t, w.one, &w.words)
	}
	for k := range w.under {
		for range len(w.under[k].left) + 1 {
			w.step(t, k)
		}
	}
	for len(w.under) > 0 {
		w.leave(0)
	}
	if len(w.one.walks) != 0 {
		t.Fatalf("%d are still under way", len(w.one.walks))
	}
	same(t, w.one, &w.words)
	same(t, w.two, &w.words)
}

func TestListsDoAsTheWordsSay(t *testing.T) { // P8.1 to P8.4, R6, R8
	r := rand.New(rand.NewSource(8))
	for range 300 {
		b := make([]byte, 5*r.Intn(80))
		r.Read(b)
		run(t, b)
	}
}

func FuzzListsDoAsTheWordsSay(f *testing.F) { // P8.1 to P8.4, R1, R6, R8
	f.Add([]byte{0, 9, 1, 2, 2, 0, 9, 2, 1, 5, 5, 0, 0, 0, 0, 0, 9, 2, 2, 7, 6, 0, 0, 0, 0})
	f.Add([]byte("a few bytes that say what is done to two lists"))
	f.Fuzz(func(t *testing.T, b []byte) { run(t, b[:min(len(b), 400)]) })
}

// coins tells a height as coins would: each one is half as often as the last.
func coins(r *rand.Rand) int {
	height := 1
	for height < 12 && r.Intn(2) == 0 {
		height++
	}
	return height
}

func TestManyCellsInTime(t *testing.T) { // P8.1 to P8.4, R1
	const many = 100_000
	r := rand.New(rand.NewSource(12))
	l := New()
	row := func(k int) string { return string([]byte{byte(k >> 16), byte(k >> 8), byte(k)}) }
	for _, k := range r.Perm(many) {
		must(t, l.Put(cell(row(k), "x", 1), coins(r)), api.OK)
	}
	for _, k := range r.Perm(many) {
		mustGet(t, l, row(k), "x", cell(row(k), "x", 1), true)
		for c := range l.From(row(k), "") {
			if c.Row != row(k) {
				t.Fatalf("told %v", c)
			}
			break
		}
	}
	k := 0
	for c := range l.All() {
		if c != cell(row(k), "x", 1) {
			t.Fatalf("the cell %d is %v", k, c)
		}
		k++
		must(t, l.Put(gone(c.Row, c.Col, 1), 1), api.OK)
	}
	if k != many || l.Len() != many {
		t.Errorf("told %d of %d", k, l.Len())
	}
}
