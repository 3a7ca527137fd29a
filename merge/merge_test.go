package merge

import (
	"fmt"
	"iter"
	"math"
	"math/rand"
	"slices"
	"strconv"
	"strings"
	"testing"
	"unsafe"

	"acreage/api"
	"acreage/cells"
)

// list reads cells that are written as the chapter writes them, parted by
// commas: row, column, version, and gone or a value; - is an empty text.
func list(s string) (l []api.Cell) {
	for part := range strings.SplitSeq(s, ",") {
		words := strings.Fields(part)
		if len(words) == 0 {
			continue
		}
		for i, w := range words {
			words[i] = strings.ReplaceAll(w, "-", "")
		}
		version, err := strconv.ParseUint(words[2], 10, 64)
		if err != nil {
			panic(err)
		}
		c := api.Cell{Row: words[0], Col: words[1], Version: version}
		for _, w := range words[3:] {
			if w == "gone" {
				c.Gone = true
			} else {
				c.Value = w
			}
		}
		l = append(l, c)
	}
	return l
}

// lists reads several of them, parted by semicolons.
func lists(s string) (l [][]api.Cell) {
	for part := range strings.SplitSeq(s, ";") {
		l = append(l, list(part))
	}
	return l
}

// ahead says whether a is ahead of b, byte by byte, a beginning ahead of the whole.
func ahead(a, b string) bool {
	for i := range min(len(a), len(b)) {
		if a[i] != b[i] {
			return a[i] < b[i]
		}
	}
	return len(a) < len(b)
}

// isAhead is the order of cells as DOC.md words it.
func isAhead(a, b api.Cell) bool {
	if a.Row != b.Row {
		return ahead(a.Row, b.Row)
	}
	if a.Col != b.Col {
		return ahead(a.Col, b.Col)
	}
	return a.Version > b.Version
}

// isSorted says whether each cell stands ahead of the next one.
func isSorted(l []api.Cell) bool {
	for i := 1; i < len(l); i++ {
		if !isAhead(l[i-1], l[i]) {
			return false
		}
	}
	return true
}

// stays says whether All has the cell at i of a row of these cells: it does,
// unless one that the row told ahead is not ahead of it.
func stays(l []api.Cell, i int) bool {
	for _, c := range l[:i] {
		if !isAhead(c, l[i]) {
			return false
		}
	}
	return true
}

// slowAll lays all rows together first: each cell to where it belongs, unless
// one of its Row, Col and Version stands there, of a row ahead.
func slowAll(rows [][]api.Cell) (out []api.Cell) {
	for _, l := range rows {
		for i, c := range l {
			at := 0
			for at < len(out) && isAhead(out[at], c) {
				at++
			}
			if stays(l, i) && (at == len(out) || isAhead(c, out[at])) {
				out = slices.Insert(out, at, c)
			}
		}
	}
	return out
}

// asksFor tells how often a row of these cells is asked up to when All tells c:
// for all that it has ahead of c, for all that is passed by there, and for the
// first that is not ahead of c, or for its end.
func asksFor(l []api.Cell, c api.Cell) int {
	for i := range l {
		if stays(l, i) && !isAhead(l[i], c) {
			return i + 1
		}
	}
	return len(l) + 1
}

// step is what a row is to tell, and how often the row that it is made of is
// asked up to then.
type step struct {
	cell api.Cell
	asks int
}

func slowNewest(l []api.Cell) (out []step) {
	for i, c := range l {
		if i == 0 || l[i-1].Row != c.Row || l[i-1].Col != c.Col {
			out = append(out, step{c, i + 1})
		}
	}
	return out
}

func slowAlive(l []api.Cell) (out []step) {
	for _, x := range slowNewest(l) {
		if !x.cell.Gone {
			out = append(out, x)
		}
	}
	return out
}

func cellsOf(l []step) (out []api.Cell) {
	for _, x := range l {
		out = append(out, x.cell)
	}
	return out
}

// counted is a row of cells that counts how often it is asked.
type counted struct {
	left []api.Cell
	asks int
}

func (x *counted) row() (api.Cell, bool) {
	x.asks++
	if len(x.left) == 0 {
		return api.Cell{}, false
	}
	c := x.left[0]
	x.left = x.left[1:]
	return c, true
}

// shown tells cells, or the first of them, and what texts begin with.
func shown(l ...api.Cell) string {
	s := ""
	for i, c := range l {
		if i == 20 {
			return s + fmt.Sprintf("and so on (%d cells)", len(l))
		}
		s += fmt.Sprintf("%.20q %.20q %d %t %.20q, ", c.Row, c.Col, c.Version, c.Gone, c.Value)
	}
	return s
}

func mustTell(t *testing.T, s Row, want api.Cell) {
	t.Helper()
	if c, is := s(); c != want || !is {
		t.Fatalf("told %s %t, not %s", shown(c), is, shown(want))
	}
}

func mustEnd(t *testing.T, s Row) {
	t.Helper()
	for range 3 {
		if c, is := s(); is || c != (api.Cell{}) {
			t.Fatalf("told %s %t behind the end", shown(c), is)
		}
	}
}

// tells asks a row to its end, and beyond.
func tells(t *testing.T, s Row, want ...api.Cell) {
	t.Helper()
	if s == nil {
		t.Fatal("nil is answered")
	}
	for _, c := range want {
		mustTell(t, s, c)
	}
	mustEnd(t, s)
}

func mustBe(t *testing.T, got []api.Cell, want ...api.Cell) {
	t.Helper()
	if !slices.Equal(got, want) {
		t.Fatalf("answered %s not %s", shown(got...), shown(want...))
	}
}

// mustBeAsked looks how often rows were asked so far.
func mustBeAsked(t *testing.T, rows []*counted, want ...int) {
	t.Helper()
	for i, x := range rows {
		if x.asks != want[i] {
			t.Fatalf("the row %d was asked %d times, not %d", i, x.asks, want[i])
		}
	}
}

// counts makes counted rows of lists.
func counts(l [][]api.Cell) (rows []*counted, made []Row) {
	for _, cells := range l {
		x := &counted{left: cells}
		rows, made = append(rows, x), append(made, x.row)
	}
	return rows, made
}

// sameAll holds All of rows against the words: what it tells, and whom it has
// asked for it.
func sameAll(t *testing.T, l [][]api.Cell) {
	t.Helper()
	rows, made := counts(l)
	s := All(made...)
	if s == nil {
		t.Fatal("nil is answered")
	}
	asks := make([]int, len(l))
	mustBeAsked(t, rows, asks...)
	for _, c := range slowAll(l) {
		mustTell(t, s, c)
		for i := range l {
			asks[i] = asksFor(l[i], c)
		}
		mustBeAsked(t, rows, asks...)
	}
	for i := range l {
		asks[i] = len(l[i]) + 1
	}
	for range 2 {
		mustEnd(t, s)
		mustBeAsked(t, rows, asks...)
	}
}

// sameSteps holds a row that is made of another one against its steps.
func sameSteps(t *testing.T, make func(Row) Row, l []api.Cell, want []step) {
	t.Helper()
	x := &counted{left: l}
	s := make(x.row)
	if s == nil {
		t.Fatal("nil is answered")
	}
	mustBeAsked(t, []*counted{x}, 0)
	for _, w := range want {
		mustTell(t, s, w.cell)
		mustBeAsked(t, []*counted{x}, w.asks)
	}
	if _, is := s(); is {
		t.Fatal("more is told")
	}
	mustBeAsked(t, []*counted{x}, len(l)+1)
	mustEnd(t, s)
}

func sameOne(t *testing.T, l []api.Cell) {
	t.Helper()
	sameSteps(t, Newest, l, slowNewest(l))
	sameSteps(t, Alive, l, slowAlive(l))
	tells(t, Of(l), l...)
}

// words are all lists of at most most of these cells.
func words(of []api.Cell, most int) iter.Seq[[]api.Cell] {
	return func(yield func([]api.Cell) bool) {
		var grow func(l []api.Cell) bool
		grow = func(l []api.Cell) bool {
			if !yield(slices.Clone(l)) {
				return false
			}
			for _, c := range of {
				if len(l) < most && !grow(append(slices.Clone(l), c)) {
					return false
				}
			}
			return true
		}
		grow(nil)
	}
}

// marked gives each cell a value that says from which row it is, and where it
// stands in it.
func marked(row int, l []api.Cell) []api.Cell {
	out := slices.Clone(l)
	for i := range out {
		out[i].Value += fmt.Sprint(row, ".", i)
	}
	return out
}

func TestTheChaptersExamples(t *testing.T) { // P12.1 to P12.3
	first, second := list("a x 2, b x 1"), list("a x 2 gone, a x 1")
	all := func() Row { return All(Of(first), Of(second)) }
	tells(t, all(), list("a x 2, a x 1, b x 1")...)
	tells(t, Newest(all()), list("a x 2, b x 1")...)
	tells(t, Alive(Of(list("a x 2 gone, a x 1, b x 1"))), list("b x 1")...)
	tells(t, All())
	tells(t, All(nil))
	tells(t, All(Of(list("b x 1, a x 1"))), list("b x 1")...)
	abc := list("a x 1, b x 1, c x 1")
	mustBe(t, List(Of(abc), 2), abc[:2]...)
	mustBe(t, List(Of(abc), 0))
	mustBe(t, List(nil, 5))
}

func TestRowsOfNone(t *testing.T) { // P12.1 to P12.4, R1, R3, R4
	none := func() (api.Cell, bool) { return api.Cell{}, false }
	for _, s := range []Row{nil, none, Of(nil), Of([]api.Cell{}), All(), All(nil), All(nil, none, nil), All(All(), All(nil)), Newest(nil), Newest(none), Alive(nil), Alive(none), Newest(All()), Alive(Newest(nil))} {
		tells(t, All(s))
		tells(t, All(s, s, nil))
		tells(t, Newest(s))
		tells(t, Alive(s))
		for _, most := range []int{math.MinInt, -1, 0, 1, math.MaxInt} {
			mustBe(t, List(s, most))
		}
		tells(t, All(s, Of(list("a x 1")), s, nil, Of(list("b x 1"))), list("a x 1, b x 1")...)
	}
	tells(t, All([]Row{}...))
	tells(t, All(make([]Row, 100)...))
}

func TestAllOfKnownRows(t *testing.T) { // P12.1, P12.4
	for _, x := range []struct{ rows, want string }{
		{"", ""},
		{"a x 1", "a x 1"},
		{"a x 1, b x 1, c x 1", "a x 1, b x 1, c x 1"},
		{"a x 1; b x 1", "a x 1, b x 1"},
		{"b x 1; a x 1", "a x 1, b x 1"},
		{"c x 1; a x 1; b x 1", "a x 1, b x 1, c x 1"},
		{"a x 1, c x 1, e x 1; b x 1, d x 1", "a x 1, b x 1, c x 1, d x 1, e x 1"},
		{"a x 1; b x 1, c x 1, d x 1; e x 1", "a x 1, b x 1, c x 1, d x 1, e x 1"},
		{"; a x 1; ; b x 1, c x 1;", "a x 1, b x 1, c x 1"},
		// Rows, then columns, then falling versions.
		{"a x 1, a y 1; a x 2, b x 9", "a x 2, a x 1, a y 1, b x 9"},
		{"a x 3, a x 1; a x 4, a x 2", "a x 4, a x 3, a x 2, a x 1"},
		{"ab x 1; a x 1; - x 1; a - 1; a y 1", "- x 1, a - 1, a x 1, a y 1, ab x 1"},
		{"a x 10, a x 9; a x 11, a x 1", "a x 11, a x 10, a x 9, a x 1"},
		// Of several the first row's, whatever is in it.
		{"a x 1 v; a x 1 w", "a x 1 v"},
		{"a x 1 w; a x 1 v", "a x 1 w"},
		{"a x 1 gone; a x 1 v", "a x 1 gone"},
		{"a x 1 v; a x 1 gone", "a x 1 v"},
		{"a x 1 v; a x 1 w; a x 1 u", "a x 1 v"},
		{"b x 1 v; a x 1 p, b x 1 w; b x 1 u, c x 1 q", "a x 1 p, b x 1 v, c x 1 q"},
		{"a x 2 v, a x 1 w; a x 2 p, a x 1 q", "a x 2 v, a x 1 w"},
		{"c x 1 u; a x 1 v, c x 1 w; a x 1 p, b x 1 q", "a x 1 v, b x 1 q, c x 1 u"},
		{"a x 1 v; a x 2 w", "a x 2 w, a x 1 v"},
		// Of one row that tells a cell twice the first one.
		{"a x 1 v, a x 1 w, b x 1", "a x 1 v, b x 1"},
		{"a x 1 v, a x 1 gone, a x 1 w", "a x 1 v"},
		// Out of order.
		{"b x 1, a x 1", "b x 1"},
		{"b x 1, a x 1, c x 1", "b x 1, c x 1"},
		{"c x 1, b x 1, a x 1", "c x 1"},
		{"a x 1, a x 2, a x 3", "a x 1"},
		{"a x 1, c x 1, b x 1, d x 1; a x 2, b x 2", "a x 2, a x 1, b x 2, c x 1, d x 1"},
		// Behind the one just ahead, but not behind all.
		{"c x 1, a x 1, b x 1, d x 1", "c x 1, d x 1"},
		{"c x 1 v, a x 1, c x 1 w, d x 1", "c x 1 v, d x 1"},
		// Behind what All told, but not behind all of its own row, and the other way round.
		{"a x 1; e x 1, b x 1, f x 1", "a x 1, e x 1, f x 1"},
		{"d x 1; a x 1, c x 1, b x 1, e x 1", "a x 1, c x 1, d x 1, e x 1"},
		{"a x 1 v, c x 1, b x 1; a x 1 w, b x 1 u", "a x 1 v, b x 1 u, c x 1"},
		// What is passed by in one row may be told of another one.
		{"b x 1, a x 1 v; a x 1 w", "a x 1 w, b x 1"},
	} {
		if got := slowAll(lists(x.rows)); !slices.Equal(got, list(x.want)) {
			t.Fatalf("%s: the words say %s", x.rows, shown(got...))
		}
		sameAll(t, lists(x.rows))
	}
}

func TestNewestOfKnownRows(t *testing.T) { // P12.2, P12.4
	for _, x := range []struct{ row, newest, alive string }{
		{"", "", ""},
		{"a x 1", "a x 1", "a x 1"},
		{"a x 1 gone", "a x 1 gone", ""},
		{"a x 3, a x 2, a x 1", "a x 3", "a x 3"},
		{"a x 3 gone, a x 2 gone, a x 1 gone", "a x 3 gone", ""},
		{"a x 2 gone, a x 1 v", "a x 2 gone", ""},
		{"a x 2 v, a x 1 gone", "a x 2 v", "a x 2 v"},
		{"a x 2 gone, b x 2 gone, c x 2 gone", "a x 2 gone, b x 2 gone, c x 2 gone", ""},
		{"a x 2 gone, a x 1, b x 1", "a x 2 gone, b x 1", "b x 1"},
		{"a x 1, b x 2 gone, b x 1, c x 2 gone, d x 1", "a x 1, b x 2 gone, c x 2 gone, d x 1", "a x 1, d x 1"},
		{"a x 1, a y 1, b x 1, b y 1", "a x 1, a y 1, b x 1, b y 1", "a x 1, a y 1, b x 1, b y 1"},
		{"a - 2, a - 1, a x 2, a x 1", "a - 2, a x 2", "a - 2, a x 2"},
		{"- x 2, - x 1, x - 2, x - 1", "- x 2, x - 2", "- x 2, x - 2"},
		{"a bc 1, ab c 1", "a bc 1, ab c 1", "a bc 1, ab c 1"},
		// The first cell is told, of the place of two empty texts too.
		{"- - 2 v, - - 1, a x 1", "- - 2 v, a x 1", "- - 2 v, a x 1"},
		{"- - 0 v, - - 0 w", "- - 0 v", "- - 0 v"},
		{"- - 0", "- - 0", "- - 0"},
		// Any order: the cell just ahead counts, and its place alone.
		{"a x 1, a x 2, a x 3", "a x 1", "a x 1"},
		{"a x 1 v, a x 1 w", "a x 1 v", "a x 1 v"},
		{"a x 1, b x 1, a x 1", "a x 1, b x 1, a x 1", "a x 1, b x 1, a x 1"},
		{"b x 1, a x 1 gone, a x 2, b x 2 gone, a x 3", "b x 1, a x 1 gone, b x 2 gone, a x 3", "b x 1, a x 3"},
		{"a x 1 gone, b x 1, a x 1 v", "a x 1 gone, b x 1, a x 1 v", "b x 1, a x 1 v"},
	} {
		l := list(x.row)
		if got := cellsOf(slowNewest(l)); !slices.Equal(got, list(x.newest)) {
			t.Fatalf("%s: the words say %s", x.row, shown(got...))
		}
		if got := cellsOf(slowAlive(l)); !slices.Equal(got, list(x.alive)) {
			t.Fatalf("%s: the words say %s", x.row, shown(got...))
		}
		sameOne(t, l)
	}
}

func TestAllOfEveryFewRows(t *testing.T) { // P12.1, P12.4, P12.5
	var short [][]api.Cell
	for l := range words(list("a x 2, a x 1, b x 1"), 3) {
		short = append(short, l)
		sameAll(t, [][]api.Cell{marked(0, l)})
	}
	for _, a := range short {
		for _, b := range short {
			for _, c := range short {
				l := [][]api.Cell{marked(0, a), marked(1, b), marked(2, c)}
				sameAll(t, l)
				if isSorted(a) && isSorted(b) && isSorted(c) {
					followed(t, l)
				}
			}
		}
	}
}

func TestAllOfEveryTwoLongerRows(t *testing.T) { // P12.1, P12.4
	var longer [][]api.Cell
	for l := range words(list("a x 1, a y 2, a y 1, b x 1"), 4) {
		longer = append(longer, l)
	}
	for _, a := range longer {
		for _, b := range longer {
			sameAll(t, [][]api.Cell{marked(0, a), marked(1, b)})
		}
	}
}

func TestNewestAndAliveOfEveryRow(t *testing.T) { // P12.2, P12.3, P12.4
	for l := range words(list("a x 2, a x 1 gone, b x 1, a y 1 gone, - - 0"), 5) {
		sameOne(t, marked(0, l))
	}
}

// followed looks at what follows of lists that are sorted.
func followed(t *testing.T, l [][]api.Cell) {
	t.Helper()
	all := func() Row {
		_, made := counts(l)
		return All(made...)
	}
	whole := slices.Concat(l...)
	tells(t, all(), cells.Sort(whole)...)
	tells(t, Newest(all()), cells.Newest(whole)...)
	tells(t, Alive(all()), cells.Alive(whole)...)
}

// drawnCell is any one of few places, so that many of them are alike.
func drawnCell(chance *rand.Rand) api.Cell {
	texts := []string{"", "a", "ab", "b", "\x00", "\xff", "a\x00"}
	return api.Cell{
		Row:     texts[chance.Intn(len(texts))],
		Col:     texts[chance.Intn(len(texts))],
		Version: uint64(chance.Intn(4)),
		Gone:    chance.Intn(3) == 0,
	}
}

// drawnRows are some rows, sorted or not, whose cells say where they are from.
func drawnRows(chance *rand.Rand, sorted bool) (l [][]api.Cell) {
	for row := range chance.Intn(7) {
		var one []api.Cell
		for range chance.Intn(30) {
			one = append(one, drawnCell(chance))
		}
		if sorted {
			one = slowAll(single(one))
		}
		l = append(l, marked(row, one))
	}
	return l
}

// single makes a row of each cell.
func single(l []api.Cell) (rows [][]api.Cell) {
	for _, c := range l {
		rows = append(rows, []api.Cell{c})
	}
	return rows
}

func TestWhatFollowsOfSortedLists(t *testing.T) { // P12.1, P12.2, P12.4, P12.5
	chance := rand.New(rand.NewSource(12))
	for range 1500 {
		l := drawnRows(chance, true)
		for _, one := range l {
			if !isSorted(one) {
				t.Fatalf("not sorted: %s", shown(one...))
			}
		}
		sameAll(t, l)
		followed(t, l)
	}
}

func TestRowsThatAreNotSorted(t *testing.T) { // P12.1, P12.2, P12.4, R1
	chance := rand.New(rand.NewSource(4))
	for range 1500 {
		l := drawnRows(chance, false)
		sameAll(t, l)
		sameOne(t, slices.Concat(l...))
	}
}

func TestOneCellOutOfOrder(t *testing.T) { // P12.1, P12.4
	l := list("a x 2, a x 1, a y 1, b x 3, b x 2, c x 1")
	other := list("a x 3 w, a x 1 w, b x 3 w, c x 2 w, d x 1 w")
	for from := range l {
		for to := range l {
			moved := slices.Delete(slices.Clone(l), from, from+1)
			moved = slices.Insert(moved, to, l[from])
			twice := slices.Insert(slices.Clone(l), to, l[from])
			for _, x := range [][]api.Cell{moved, twice} {
				sameAll(t, [][]api.Cell{x})
				sameAll(t, [][]api.Cell{x, other})
				sameAll(t, [][]api.Cell{other, x})
				sameAll(t, [][]api.Cell{marked(0, x), marked(1, x)})
			}
		}
	}
	slices.Reverse(l)
	sameAll(t, [][]api.Cell{l})
	sameAll(t, [][]api.Cell{l, other})
	sameAll(t, [][]api.Cell{other, l})
}

func TestWhenRowsAreAsked(t *testing.T) { // P12.4
	rows, made := counts(lists("a x 1, d x 1; a x 1, b x 1; c x 1;"))
	s := All(made...)
	mustBeAsked(t, rows, 0, 0, 0, 0)
	mustTell(t, s, list("a x 1")[0])
	mustBeAsked(t, rows, 1, 1, 1, 1)
	mustTell(t, s, list("b x 1")[0])
	mustBeAsked(t, rows, 2, 2, 1, 1)
	mustTell(t, s, list("c x 1")[0])
	mustBeAsked(t, rows, 2, 3, 1, 1)
	mustTell(t, s, list("d x 1")[0])
	mustBeAsked(t, rows, 2, 3, 2, 1)
	mustEnd(t, s)
	mustBeAsked(t, rows, 3, 3, 2, 1)

	// Passed by because it is out of order: asked on at once, and only this row.
	rows, made = counts(lists("b x 1, a x 1, b x 1, e x 1; c x 1, d x 1"))
	s = All(made...)
	mustTell(t, s, list("b x 1")[0])
	mustBeAsked(t, rows, 1, 1)
	mustTell(t, s, list("c x 1")[0])
	mustBeAsked(t, rows, 4, 1)
	mustTell(t, s, list("d x 1")[0])
	mustBeAsked(t, rows, 4, 2)
	mustTell(t, s, list("e x 1")[0])
	mustBeAsked(t, rows, 4, 3)
	mustEnd(t, s)
	mustBeAsked(t, rows, 5, 3)
}

func TestNothingIsAskedAheadOfBeingAsked(t *testing.T) { // P12.4
	x := &counted{left: list("a x 1, a x 1, b x 1 gone, c x 1")}
	s := Alive(Newest(All(Newest(x.row), nil, Of(nil), Alive(All(x.row)))))
	if s == nil || x.asks != 0 {
		t.Fatalf("asked %d times", x.asks)
	}
	for _, most := range []int{0, -1, math.MinInt} {
		mustBe(t, List(x.row, most))
		mustBe(t, List(s, most))
	}
	if x.asks != 0 {
		t.Fatalf("asked %d times", x.asks)
	}
}

func TestListTellsTheNextOnes(t *testing.T) { // P12.3, P12.4
	l := list("a x 2, a x 1 gone, b x 1, a x 2, b x 1")
	for most := range len(l) + 3 {
		x := &counted{left: l}
		n := min(most, len(l))
		mustBe(t, List(x.row, most), l[:n]...)
		// Behind the last one that is wanted it is not asked for one more.
		mustBeAsked(t, []*counted{x}, min(most, len(l)+1))
		mustBe(t, List(x.row, 0))
		mustBe(t, List(x.row, 1), l[n:min(n+1, len(l))]...)
		mustBe(t, List(x.row, math.MaxInt), l[min(n+1, len(l)):]...)
		for _, most := range []int{math.MaxInt, 1, 0, -1} {
			mustBe(t, List(x.row, most))
		}
	}
	for _, most := range []int{0, -1, -2, math.MinInt} {
		x := &counted{left: l}
		mustBe(t, List(x.row, most))
		mustBeAsked(t, []*counted{x}, 0)
	}
}

func TestARowIsAskedFurtherBehindAList(t *testing.T) { // P12.1 to P12.3
	l := lists("a x 2, c x 1; a x 2 gone, a x 1, b x 2 gone, b x 1; d x 1")
	for name, x := range map[string]struct {
		make func(Row) Row
		want []api.Cell
	}{
		"All":    {func(s Row) Row { return s }, list("a x 2, a x 1, b x 2 gone, b x 1, c x 1, d x 1")},
		"Newest": {Newest, list("a x 2, b x 2 gone, c x 1, d x 1")},
		"Alive":  {Alive, list("a x 2, c x 1, d x 1")},
		"Of":     {func(s Row) Row { return Of(List(s, 99)) }, list("a x 2, a x 1, b x 2 gone, b x 1, c x 1, d x 1")},
	} {
		for n := range len(x.want) + 1 {
			_, made := counts(l)
			s := x.make(All(made...))
			if got := List(s, n); !slices.Equal(got, x.want[:n]) {
				t.Errorf("%s: the first %d are %s", name, n, shown(got...))
			}
			if got := List(s, math.MaxInt); !slices.Equal(got, x.want[n:]) {
				t.Errorf("%s: behind %d are %s", name, n, shown(got...))
			}
			mustEnd(t, s)
		}
	}
}

func TestRowsOfRows(t *testing.T) { // P12.1, P12.2
	a, b, c := list("a x 1 u, d x 1"), list("a x 1 v, b x 1"), list("a x 1 w, c x 1")
	want := list("a x 1 u, b x 1, c x 1, d x 1")
	tells(t, All(All(Of(a), Of(b)), Of(c)), want...)
	tells(t, All(Of(a), All(Of(b), Of(c))), want...)
	tells(t, All(All(All(Of(a)), All(Of(b))), All(All(Of(c)))), want...)
	tells(t, Newest(Newest(Of(list("a x 2, a x 1, b x 1")))), list("a x 2, b x 1")...)
	tells(t, Newest(Alive(Of(list("a x 2 gone, a x 1, b x 1")))), list("b x 1")...)
	tells(t, All(Newest(Of(list("a x 2, a x 1"))), Alive(Of(list("a x 3 gone, a x 1, b x 1")))), list("a x 2, b x 1")...)
	// One row that is handed in twice is asked by both, and each cell told once.
	s := Of(want)
	tells(t, All(s, nil, s), want...)
}

func TestRowsThatGoOnBehindTheirEnd(t *testing.T) { // R1, R4
	// No row: it tells cells behind its end, and one with a false.
	odd := func() Row {
		at := 0
		return func() (api.Cell, bool) {
			at++
			return api.Cell{Row: "a", Col: strconv.Itoa(at), Version: 1, Gone: at == 3, Value: "v"}, at != 3
		}
	}
	want := []api.Cell{{Row: "a", Col: "1", Version: 1, Value: "v"}, {Row: "a", Col: "2", Version: 1, Value: "v"}}
	tells(t, All(odd()), want...)
	tells(t, All(odd(), odd()), want...)
	tells(t, Newest(odd()), want...)
	tells(t, Alive(odd()), want...)
	mustBe(t, List(odd(), 99), want...)
}

// strange are cells that may not be, and such at the edges, in order.
func strange() []api.Cell {
	huge := strings.Repeat("k", 1<<17)
	return []api.Cell{
		{Version: math.MaxUint64},
		{Version: 1},
		{Gone: true, Value: "v"},
		{Col: huge},
		{Row: "\x00", Version: 1 << 40},
		{Row: "a", Version: 1},
		{Row: "a", Value: huge},
		{Row: "a", Col: "\x00"},
		{Row: "a", Col: "x", Version: math.MaxUint64, Gone: true},
		{Row: "a", Col: "x", Version: 1<<63 + 1},
		{Row: "a", Col: "x", Version: 1<<63 - 1},
		{Row: "a", Col: "x"},
		{Row: "a\x00"},
		{Row: huge, Version: 2},
		{Row: huge, Col: huge, Value: huge},
		{Row: "\x7f"},
		{Row: "\x80"},
		{Row: "\xff"},
		{Row: "\xff\x00"},
	}
}

func TestAnyCells(t *testing.T) { // P12.1 to P12.5, R1
	l := strange()
	if !isSorted(l) {
		t.Fatal("not sorted")
	}
	sameOne(t, l)
	mustBe(t, List(Of(l), len(l)), l...)
	followed(t, [][]api.Cell{l})
	followed(t, single(l))
	for parts := 1; parts < 5; parts++ {
		rows := make([][]api.Cell, parts)
		for i, c := range l {
			rows[i%parts] = append(rows[i%parts], c)
		}
		sameAll(t, rows)
		followed(t, rows)
		slices.Reverse(rows)
		sameAll(t, rows)
		followed(t, rows)
	}
	back := slices.Clone(l)
	slices.Reverse(back)
	sameAll(t, [][]api.Cell{back, l})
	sameAll(t, single(back))
	// Each one alone, told though it is a zero cell, and twice.
	for _, c := range append(l, api.Cell{}) {
		sameAll(t, [][]api.Cell{{c}})
		sameAll(t, [][]api.Cell{{c, c}, {c}})
		sameOne(t, []api.Cell{c})
		sameOne(t, []api.Cell{c, c})
	}
}

func TestAListIsKeptAsItStood(t *testing.T) { // P12.3, R5
	whole := list("a x 1 v, b x 1 w, c x 1 u, d x 1 behind")
	for n := range len(whole) {
		l := slices.Clone(whole)
		s, other := Of(l[:n]), Of(l[:n])
		mustBe(t, List(other, 1), whole[:min(n, 1)]...)
		clear(l)
		tells(t, s, whole[:n]...)
		tells(t, other, whole[min(n, 1):n]...)
		for i := range l {
			l[i] = list("z z 9 changed")[0]
		}
		tells(t, All(s, other))
	}
	l := slices.Clone(whole)
	s := Of(l)
	for i, c := range whole {
		l[i] = api.Cell{}
		mustTell(t, s, c)
	}
	mustEnd(t, s)
}

func TestRowsThatAreExchangedAfterwards(t *testing.T) { // R5
	want := list("a x 1, b x 1, c x 1")
	rows := []Row{Of(want[:1]), Of(want[2:]), Of(want[1:2])}
	s := All(rows[:2]...)
	rows[0], rows[1] = rows[1], nil
	mustTell(t, s, want[0])
	rows[0] = nil
	mustTell(t, s, want[2])
	mustEnd(t, s)
	// What stands behind the end of the list is neither asked nor changed.
	tells(t, rows[2], want[1])
}

func TestWhatIsHandedInIsNotChanged(t *testing.T) { // R5
	whole := list("a x 2 v, a x 1 gone, b x 1, b x 1, a x 1, c x 1 behind")
	kept := slices.Clone(whole)
	for n := range len(whole) + 1 {
		for _, s := range []Row{Of(whole[:n]), All(Of(whole[:n]), Of(whole[:n])), Newest(Of(whole[:n])), Alive(Of(whole[:n]))} {
			l := List(s, 99)
			clear(l)
			_ = append(l[:0:cap(l)], make([]api.Cell, cap(l))...)
			mustBe(t, whole, kept...)
		}
	}
}

// over is a text that lies upon b, which a test then changes.
func over(b []byte) string { return unsafe.String(unsafe.SliceData(b), len(b)) }

// upon tells cells, each of texts that lie upon the same bytes as those of the
// one ahead, and of all other rows with these bytes.
func upon(b []byte, l []api.Cell) Row {
	return func() (api.Cell, bool) {
		for i := range b {
			b[i] = '!'
		}
		if len(l) == 0 {
			return api.Cell{}, false
		}
		c, from := l[0], 0
		l = l[1:]
		lay := func(s string) string {
			from += copy(b[from:], s)
			return over(b[from-len(s) : from])
		}
		c.Row, c.Col, c.Value = lay(c.Row), lay(c.Col), lay(c.Value)
		return c, true
	}
}

func TestWhatRowsTellIsNotKept(t *testing.T) { // R5
	l := lists("a x 2 v, b x 2 gone, b x 1 w, d yy 1 long; a x 2 u, a x 1 gone, c x 1 v, d y 1 w")
	for name, make := range map[string]func(Row) Row{
		"All":    func(s Row) Row { return All(s) },
		"Newest": Newest,
		"Alive":  Alive,
	} {
		b := []byte(strings.Repeat("-", 20))
		for _, one := range l {
			want := List(make(Of(one)), 99)
			var got []api.Cell
			s := make(upon(b, one))
			for c, is := s(); is; c, is = s() {
				got = append(got, c)
			}
			if !slices.Equal(got, want) {
				t.Errorf("%s: told %s", name, shown(got...))
			}
			mustBe(t, List(upon(b, one), 99), one...)
		}
	}
	b := []byte(strings.Repeat("-", 20))
	tells(t, All(upon(b, l[0]), upon(b, l[1])), slowAll(l)...)
	mustBe(t, List(All(upon(b, l[1]), upon(b, l[0])), 99), slowAll([][]api.Cell{l[1], l[0]})...)

	// And a list whose texts are changed when it was handed in.
	s := Of(List(upon(b, l[0]), 1))
	c, _ := upon(b, l[0])()
	other := Of([]api.Cell{c})
	for i := range b {
		b[i] = '?'
	}
	tells(t, s, l[0][0])
	tells(t, other, l[0][0])
}

// spoil changes the bytes of what a row told, as one may whose memory it is.
func spoil(c api.Cell) {
	for _, s := range []string{c.Row, c.Col, c.Value} {
		b := unsafe.Slice(unsafe.StringData(s), len(s))
		for i := range b {
			b[i] = 'z'
		}
	}
}

func TestWhatIsToldIsNewMemory(t *testing.T) { // R5
	text := func(s string) string { return strings.Clone(s) }
	given := func() (l []api.Cell) {
		for _, c := range list("aa xx 2 v, aa xx 2 w, aa xx 1 gone, bb xx 1 w, bb xx 1 w, cc yy 2 gone, cc yy 1 v, dd yy 1 u") {
			l = append(l, api.Cell{Row: text(c.Row), Col: text(c.Col), Version: c.Version, Gone: c.Gone, Value: text(c.Value)})
		}
		return l
	}
	for name, make := range map[string]func(l []api.Cell) Row{
		"All":    func(l []api.Cell) Row { return All((&counted{left: l}).row, (&counted{left: l}).row) },
		"Newest": func(l []api.Cell) Row { return Newest((&counted{left: l}).row) },
		"Alive":  func(l []api.Cell) Row { return Alive((&counted{left: l}).row) },
		"Of":     Of,
		"List":   func(l []api.Cell) Row { return (&counted{left: List((&counted{left: l}).row, 99)}).row },
	} {
		l := given()
		want := List(make(l), 99)
		s, other := make(l), make(l)
		for _, c := range want {
			got, is := s()
			if got != c || !is {
				t.Fatalf("%s: told %s %t, not %s", name, shown(got), is, shown(c))
			}
			// What is told next does not hang on what becomes of what was told.
			spoil(got)
		}
		mustEnd(t, s)
		tells(t, other, want...)
		if !slices.Equal(l, given()) {
			t.Errorf("%s: what is told is the memory of what was handed in", name)
		}
	}
}

func TestRowsGoTheirOwnWay(t *testing.T) { // R6
	l := lists("a x 2, c x 1, e x 1; a x 2 gone, a x 1, d x 2 gone, d x 1; b x 1")
	made := func() (rows []Row) {
		for _, make := range []func(Row) Row{func(s Row) Row { return s }, Newest, Alive} {
			for range 2 {
				rows = append(rows, make(All(Of(l[0]), Of(l[1]), Of(l[2]))))
			}
		}
		return rows
	}
	var want [][]api.Cell
	for _, s := range made() {
		want = append(want, List(s, 99))
	}
	// In turns, by one or two cells, as if nobody else were there.
	rows := made()
	got := make([][]api.Cell, len(rows))
	for turn := range 20 {
		for i, s := range rows {
			got[i] = append(got[i], List(s, 1+(turn+i)%2)...)
		}
	}
	for i := range rows {
		mustBe(t, got[i], want[i]...)
	}
}

func TestManyCellsAndRowsInTime(t *testing.T) { // P12.1 to P12.5, R1
	const many = 200_000
	cell := func(k int) api.Cell {
		return api.Cell{Row: string([]byte{byte(k >> 16), byte(k >> 8), byte(k)}), Col: "x", Version: 1, Gone: k%2 == 1}
	}
	rows := make([][]api.Cell, 8)
	var all, alive []api.Cell
	for k := range many {
		rows[k%7] = append(rows[k%7], cell(k))
		if k%5 == 0 {
			rows[7] = append(rows[7], cell(k))
		}
		all = append(all, cell(k))
		if k%2 == 0 {
			alive = append(alive, cell(k))
		}
	}
	made := func() (l []Row) {
		for _, one := range rows {
			l = append(l, Of(one))
		}
		return l
	}
	mustBe(t, List(All(made()...), math.MaxInt), all...)
	mustBe(t, List(Newest(All(made()...)), math.MaxInt), all...)
	mustBe(t, List(Alive(All(made()...)), math.MaxInt), alive...)

	// Many rows, and one cell again and again.
	var few []Row
	for k := range 2000 {
		few = append(few, Of(all[1999-k:2000-k]))
	}
	mustBe(t, List(All(few...), math.MaxInt), all[:2000]...)
	alike := slices.Repeat(all[:1], many)
	tells(t, All(Of(alike), Of(alike)), all[0])
	tells(t, Newest(Of(alike)), all[0])
	tells(t, Alive(Of(slices.Repeat(all[1:2], many))))
}

// rowsOf makes rows of bytes: each byte a cell, or the end of a row.
func rowsOf(b []byte) (l [][]api.Cell) {
	texts := []string{"", "a", "b", "a\x00"}
	var one []api.Cell
	for _, x := range b {
		if x >= 0xe0 {
			l, one = append(l, one), nil
			continue
		}
		one = append(one, api.Cell{
			Row:     texts[x&3],
			Col:     texts[x>>2&3],
			Version: uint64(x >> 4 & 3),
			Gone:    x>>6&1 == 1,
		})
	}
	return append(l, one)
}

func FuzzRowsAreAsTheWordsSay(f *testing.F) { // P12.1 to P12.5, R1
	f.Add([]byte{}, 0)
	f.Add([]byte("aabbccdd\xffabcdabcd\xff\xffdcba"), 3)
	f.Add([]byte{0x11, 0x01, 0x05, 0xff, 0x51, 0x41, 0x45, 0x02, 0xff, 0x00}, -1)
	f.Fuzz(func(t *testing.T, b []byte, most int) {
		l := rowsOf(b[:min(len(b), 200)])
		for i := range l {
			l[i] = marked(i, l[i])
		}
		sameAll(t, l)
		whole := slices.Concat(l...)
		sameOne(t, whole)
		want := slowAll(l)
		_, made := counts(l)
		mustBe(t, List(All(made...), most), want[:max(0, min(most, len(want)))]...)
		for i, one := range l {
			l[i] = slowAll(single(one))
		}
		followed(t, l)
	})
}
