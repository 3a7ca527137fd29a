package cells

import (
	"encoding/binary"
	"encoding/hex"
	"fmt"
	"math"
	"math/rand"
	"slices"
	"strconv"
	"strings"
	"testing"
	"unsafe"

	"acreage/api"
	"acreage/keys"
)

// list reads cells that are written as the chapter writes them, parted by
// commas: row, column, version, and gone or a value; - is an empty text.
func list(s string) (l []api.Cell) {
	for part := range strings.SplitSeq(s, ",") {
		words := strings.Fields(part)
		if len(words) == 0 {
			continue
		}
		for i, w := range words {
			words[i] = strings.ReplaceAll(w, "-", "")
		}
		version, err := strconv.ParseUint(words[2], 10, 64)
		if err != nil {
			panic(err)
		}
		c := api.Cell{Row: words[0], Col: words[1], Version: version}
		for _, w := range words[3:] {
			if w == "gone" {
				c.Gone = true
			} else {
				c.Value = w
			}
		}
		l = append(l, c)
	}
	return l
}

// ahead says whether a is ahead of b, byte by byte, a beginning ahead of the whole.
func ahead(a, b string) bool {
	for i := range min(len(a), len(b)) {
		if a[i] != b[i] {
			return a[i] < b[i]
		}
	}
	return len(a) < len(b)
}

// isAhead is the order of cells as DOC.md words it.
func isAhead(a, b api.Cell) bool {
	if a.Row != b.Row {
		return ahead(a.Row, b.Row)
	}
	if a.Col != b.Col {
		return ahead(a.Col, b.Col)
	}
	return a.Version > b.Version
}

// slowSort takes the cells in one by one, each to where it belongs, unless one
// of its Row, Col and Version stands there.
func slowSort(l []api.Cell) (out []api.Cell) {
	for _, c := range l {
		at := 0
		for at < len(out) && isAhead(out[at], c) {
			at++
		}
		if at == len(out) || isAhead(c, out[at]) {
			out = slices.Insert(out, at, c)
		}
	}
	return out
}

func slowNewest(l []api.Cell) (out []api.Cell) {
	for _, c := range slowSort(l) {
		if !slices.ContainsFunc(out, func(o api.Cell) bool { return o.Row == c.Row && o.Col == c.Col }) {
			out = append(out, c)
		}
	}
	return out
}

func slowAlive(l []api.Cell) (out []api.Cell) {
	for _, c := range slowNewest(l) {
		if !c.Gone {
			out = append(out, c)
		}
	}
	return out
}

func slowWithin(l []api.Cell, r api.Range) (out []api.Cell) {
	for _, c := range l {
		if !ahead(c.Row, r.Low) && (r.High == "" || ahead(c.Row, r.High)) {
			out = append(out, c)
		}
	}
	return out
}

// mayBe says whether a cell may be, as DOC.md words it.
func mayBe(c api.Cell) bool {
	return len(c.Row) <= 32 && len(c.Col) <= 16 && (c.Col != "" || c.Row != "") &&
		c.Version >= 1 && c.Version <= 1<<40 &&
		len(c.Value) <= 1<<16 && (!c.Gone || c.Value == "")
}

// laid are the bytes of a list as the chapter words them, of cells that may
// not be too.
func laid(l []api.Cell) string {
	b := binary.AppendUvarint(nil, uint64(len(l)))
	text := func(s string) { b = append(binary.AppendUvarint(b, uint64(len(s))), s...) }
	for _, c := range l {
		text(c.Row)
		text(c.Col)
		b = binary.AppendUvarint(b, c.Version)
		if c.Gone {
			b = append(b, 1)
		} else {
			b = append(b, 0)
		}
		text(c.Value)
	}
	return string(b)
}

func unhex(t *testing.T, digits string) string {
	t.Helper()
	b, err := hex.DecodeString(strings.ReplaceAll(digits, " ", ""))
	if err != nil {
		t.Fatal(err)
	}
	return string(b)
}

func long(n int) string { return strings.Repeat("x", n) }

// pick is one of the cells that chance tells, out of few rows, columns and
// versions, so that places and versions come again; strange ones may not be.
func pick(chance *rand.Rand, strange bool) api.Cell {
	rows := []string{"", "a", "a\x00", "ab", "b", "\x7f", "\x80", "\xff", long(32)}
	cols := []string{"", "b", "x", "\xff", long(16)}
	versions := []uint64{1, 2, 3, 128, 1 << 40}
	values := []string{"", "v", "\x00", long(127), long(128)}
	if strange {
		rows = append(rows, long(33))
		cols = append(cols, long(17))
		versions = append(versions, 0, 1<<40+1, 1<<63, math.MaxUint64)
	}
	for {
		c := api.Cell{
			Row:     rows[chance.Intn(len(rows))],
			Col:     cols[chance.Intn(len(cols))],
			Version: versions[chance.Intn(len(versions))],
			Gone:    chance.Intn(3) == 0,
			Value:   values[chance.Intn(len(values))],
		}
		if !strange && c.Gone {
			c.Value = ""
		}
		if strange || mayBe(c) {
			return c
		}
	}
}

func picks(chance *rand.Rand, most int, strange bool) []api.Cell {
	l := make([]api.Cell, chance.Intn(most+1))
	for i := range l {
		l[i] = pick(chance, strange)
	}
	return l
}

func TestSortOfKnownLists(t *testing.T) { // P4.1
	for _, x := range []struct{ l, want string }{
		{"", ""},
		{"a x 1 v", "a x 1 v"},
		{"b x 1, a x 1, a x 2, a x 2 gone", "a x 2, a x 1, b x 1"},
		{"a x 1, a x 2, a x 3", "a x 3, a x 2, a x 1"},
		{"a y 9, a x 1, a - 3, - z 1", "- z 1, a - 3, a x 1, a y 9"},
		{"ab - 1, a b 1, a - 1, abc - 1", "a - 1, a b 1, ab - 1, abc - 1"},
		{"a xx 9, a x 1", "a x 1, a xx 9"},
		{"b x 1, a x 1, b x 1, a x 1", "a x 1, b x 1"},
		{"a x 0, a x 18446744073709551615, a x 9223372036854775808, a x 1", "a x 18446744073709551615, a x 9223372036854775808, a x 1, a x 0"},
		{"a x 0, a x 0 v", "a x 0"},
		{"a x 18446744073709551615 v, a x 18446744073709551615", "a x 18446744073709551615 v"},
		{"- - 0, - - 1 gone v", "- - 1 gone v, - - 0"},
	} {
		if got := Sort(list(x.l)); !slices.Equal(got, list(x.want)) {
			t.Errorf("Sort(%s) = %v", x.l, got)
		}
	}
}

func TestOfTwinsTheFirstOneStays(t *testing.T) { // P4.1
	twins := list("a x 2, a x 2 gone, a x 2 v, a x 2 w, a x 2 gone v")
	others := list("a x 3, b x 1, a x 1, - x 7, a y 2")
	for _, first := range twins {
		for _, second := range twins {
			for at := range len(others) + 1 {
				l := slices.Concat([]api.Cell{}, others[:at], []api.Cell{first}, others[at:], []api.Cell{second})
				got := Sort(l)
				want := slices.Concat(list("- x 7, a x 3"), []api.Cell{first}, list("a x 1, a y 2, b x 1"))
				if !slices.Equal(got, want) {
					t.Errorf("Sort(%v) = %v", l, got)
				}
			}
			two := []api.Cell{first, second}
			if got := Newest(two); !slices.Equal(got, two[:1]) {
				t.Errorf("Newest(%v) = %v", two, got)
			}
			alive := two[:1]
			if first.Gone {
				alive = nil
			}
			if got := Alive(two); !slices.Equal(got, alive) {
				t.Errorf("Alive(%v) = %v", two, got)
			}
		}
	}
}

func TestOfManyTwinsTheFirstOneStays(t *testing.T) { // P4.1: so many that a sort goes other ways than of few
	chance := rand.New(rand.NewSource(1))
	l := make([]api.Cell, 5000)
	first := map[string]string{}
	for i := range l {
		l[i] = api.Cell{Row: string(rune('a' + chance.Intn(3))), Col: "x", Version: 1, Value: strconv.Itoa(i)}
		if first[l[i].Row] == "" {
			first[l[i].Row] = l[i].Value
		}
	}
	for name, got := range map[string][]api.Cell{"Sort": Sort(l), "Newest": Newest(l), "Alive": Alive(l)} {
		if len(got) != 3 {
			t.Fatalf("%s: %d cells", name, len(got))
		}
		for i, c := range got {
			if row := string(rune('a' + i)); c.Row != row || c.Value != first[row] {
				t.Errorf("%s: %v, but the first one of %s is %s", name, c, row, first[row])
			}
		}
	}
}

func TestNewestOfKnownLists(t *testing.T) { // P4.1
	for _, x := range []struct{ l, want string }{
		{"", ""},
		{"a x 1 v", "a x 1 v"},
		{"a x 1 gone", "a x 1 gone"},
		{"b x 1, a x 1, a x 2, a x 2 gone", "a x 2, b x 1"},
		{"a x 1, a x 2 gone, b x 1", "a x 2 gone, b x 1"},
		{"a x 1, a y 1, a - 1, ab - 1, a b 1", "a - 1, a b 1, a x 1, a y 1, ab - 1"},
		{"a x 1, a x 3, b x 2, a x 2, b x 5", "a x 3, b x 5"},
		{"a x 0", "a x 0"},
		{"a x 0, a x 18446744073709551615 gone", "a x 18446744073709551615 gone"},
	} {
		if got := Newest(list(x.l)); !slices.Equal(got, list(x.want)) {
			t.Errorf("Newest(%s) = %v", x.l, got)
		}
	}
}

func TestAliveOfKnownLists(t *testing.T) { // P4.1
	for _, x := range []struct{ l, want string }{
		{"", ""},
		{"a x 1 v", "a x 1 v"},
		{"a x 1 gone", ""},
		{"a x 1, a x 2 gone, b x 1", "b x 1"},
		{"a x 1 gone, a x 2 gone, a x 3 gone", ""},
		{"a x 1 gone, a x 2 gone, b x 1 gone, c x 4", "c x 4"},
		{"a x 1 gone, a x 2 v", "a x 2 v"},
		{"a x 3 v, a x 2 gone, a x 1 w", "a x 3 v"},
		{"a x 1, a y 2 gone, b x 2, b y 1 gone", "a x 1, b x 2"},
		{"c x 1, b x 1, a x 1", "a x 1, b x 1, c x 1"},
		{"a x 0, a x 18446744073709551615 gone", ""},
	} {
		if got := Alive(list(x.l)); !slices.Equal(got, list(x.want)) {
			t.Errorf("Alive(%s) = %v", x.l, got)
		}
	}
}

func TestListsAreThoseOfTheWords(t *testing.T) { // P4.1, P4.2, R7
	chance := rand.New(rand.NewSource(2))
	for _, most := range []int{3, 12, 60} {
		for i := range 1500 {
			l := picks(chance, most, i%2 == 0)
			if got, want := Sort(l), slowSort(l); !slices.Equal(got, want) {
				t.Fatalf("Sort(%v) = %v, want %v", l, got, want)
			}
			if got, want := Newest(l), slowNewest(l); !slices.Equal(got, want) {
				t.Fatalf("Newest(%v) = %v, want %v", l, got, want)
			}
			if got, want := Alive(l), slowAlive(l); !slices.Equal(got, want) {
				t.Fatalf("Alive(%v) = %v, want %v", l, got, want)
			}
			r := api.Range{Low: pick(chance, true).Row, High: pick(chance, true).Row}
			if got, want := Within(l, r), slowWithin(l, r); !slices.Equal(got, want) {
				t.Fatalf("Within(%v, %q) = %v, want %v", l, r, got, want)
			}
		}
	}
}

func TestWithinOfKnownRanges(t *testing.T) { // P4.2
	for _, x := range []struct{ l, low, high, want string }{
		{"a x 1, b x 1, c x 1", "b", "c", "b x 1"},
		{"a x 1, b x 1, c x 1", "b", "", "b x 1, c x 1"},
		{"a x 1, b x 1, c x 1", "c", "b", ""},
		{"a x 1, b x 1, c x 1", "b", "b", ""},
		{"a x 1, b x 1, c x 1", "", "", "a x 1, b x 1, c x 1"},
		{"a x 1, b x 1, c x 1", "", "b", "a x 1"},
		{"a x 1, b x 1, c x 1", "d", "", ""},
		{"a x 1, b x 1, c x 1", "", "a", ""},
		{"", "a", "b", ""},
		{"- x 1, a x 1", "", "a", "- x 1"},
		{"- x 1, a x 1", "a", "", "a x 1"},
		{"a x 1, aa x 1, ab x 1, b x 1", "a", "ab", "a x 1, aa x 1"},
		{"a x 1, aa x 1, ab x 1, b x 1", "aa", "b", "aa x 1, ab x 1"},
		// As they stand: not in order, with twins, with what is gone, with what may not be.
		{"b x 1, a x 1, a x 2, a x 2 gone", "a", "c", "b x 1, a x 1, a x 2, a x 2 gone"},
		{"a x 1 v, b x 1, a x 1 v, a x 0 gone v", "a", "b", "a x 1 v, a x 1 v, a x 0 gone v"},
		{"- - 0, a - 0", "", "", "- - 0, a - 0"},
	} {
		r := api.Range{Low: x.low, High: x.high}
		if got := Within(list(x.l), r); !slices.Equal(got, list(x.want)) {
			t.Errorf("Within(%s; %q) = %v", x.l, r, got)
		}
	}
}

func TestWithinARangeThatMayNotBe(t *testing.T) { // P4.2
	l := []api.Cell{{Row: long(24)}, {Row: long(25)}, {Row: long(40)}, {Row: long(41)}}
	for _, x := range []struct {
		r    api.Range
		want []api.Cell
	}{
		{api.Range{Low: long(25)}, l[1:]},
		{api.Range{High: long(25)}, l[:1]},
		{api.Range{Low: long(25), High: long(41)}, l[1:3]},
		{api.Range{Low: long(41), High: long(25)}, nil},
	} {
		if got := Within(l, x.r); !slices.Equal(got, x.want) {
			t.Errorf("Within(%q) = %v", x.r, got)
		}
	}
}

func TestKnownBytes(t *testing.T) { // P4.3
	for _, x := range []struct{ l, hex string }{
		{"", "00"},
		{"a x 1 v", "01 01 61 01 78 01 00 01 76"},
		{"a x 1 gone", "01 01 61 01 78 01 01 00"},
		{"a - 1", "01 01 61 00 01 00 00"},
		{"- x 1", "01 00 01 78 01 00 00"},
		{"a x 300 vw", "01 01 61 01 78 ac 02 00 02 76 77"},
		{"a x 1099511627776", "01 01 61 01 78 80 80 80 80 80 20 00 00"},
		// As it stands: not in order, and each as often as it stands there.
		{"b x 1, a x 1, a x 2, a x 2 gone, b x 1", "05 0162 0178 01 00 00 0161 0178 01 00 00 0161 0178 02 00 00 0161 0178 02 01 00 0162 0178 01 00 00"},
	} {
		want := unhex(t, x.hex)
		if got, e := Encode(list(x.l)); got != want || e != api.OK {
			t.Errorf("Encode(%s) = %x, %d", x.l, got, e)
		}
		if got, e := Decode(want); !slices.Equal(got, list(x.l)) || e != api.OK {
			t.Errorf("Decode(%s) = %v, %d", x.hex, got, e)
		}
	}
}

func TestBytesOfLongTextsAndManyCells(t *testing.T) { // P4.3, P4.4
	for i, l := range [][]api.Cell{
		{{Row: long(32), Col: long(16), Version: 1 << 40, Value: long(1 << 16)}},
		{{Row: "\x00\xff\x80", Col: "\xff\x00", Version: 128, Value: "\x80\x00"}},
		{{Row: "r", Col: "c", Version: 127, Value: long(127)}, {Row: "r", Col: "c", Version: 128, Value: long(128)}},
		slices.Repeat(list("a x 1 v"), 127),
		slices.Repeat(list("a x 1 v"), 128),
		slices.Repeat(list("a x 1 gone"), 1<<14),
	} {
		s, e := Encode(l)
		if s != laid(l) || e != api.OK {
			t.Errorf("%d: %d bytes, %d", i, len(s), e)
		}
		if got, e := Decode(s); !slices.Equal(got, l) || e != api.OK {
			t.Errorf("%d: %d cells of %d, %d", i, len(got), len(l), e)
		}
	}
}

// strangers are cells that may not be, each by one thing alone.
func strangers() []api.Cell {
	return []api.Cell{
		{Version: 1},
		{Version: 1, Value: "v"},
		{Row: "r", Col: "c"},
		{Row: "r", Col: "c", Version: 1<<40 + 1},
		{Row: "r", Col: "c", Version: 1 << 63},
		{Row: "r", Col: "c", Version: math.MaxUint64},
		{Row: long(33), Col: "c", Version: 1},
		{Row: long(1 << 16), Col: "c", Version: 1},
		{Row: long(1<<16 + 1), Col: "c", Version: 1},
		{Row: "r", Col: long(17), Version: 1},
		{Col: long(17), Version: 1},
		{Row: "r", Col: "c", Version: 1, Value: long(1<<16 + 1)},
		{Row: "r", Col: "c", Version: 1, Gone: true, Value: "v"},
	}
}

func TestListsWithAStranger(t *testing.T) { // P4.3, R2
	friends := list("a x 1 v, b x 2, b x 1 gone, - s0 3")
	for i, c := range strangers() {
		for at := range len(friends) + 1 {
			l := slices.Concat(friends[:at], []api.Cell{c}, friends[at:])
			if s, e := Encode(l); s != "" || e != api.ErrArg {
				t.Errorf("the one at %d, with %d ahead: Encode = %d bytes, %d", i, at, len(s), e)
			}
			if got, e := Decode(laid(l)); len(got) != 0 || e != api.ErrForm {
				t.Errorf("the one at %d, with %d ahead: Decode = %v, %d", i, at, got, e)
			}
		}
		if s, e := Encode([]api.Cell{c}); s != "" || e != api.ErrArg {
			t.Errorf("the one at %d, alone: Encode = %d bytes, %d", i, len(s), e)
		}
		if got, e := Decode(laid([]api.Cell{c})); len(got) != 0 || e != api.ErrForm {
			t.Errorf("the one at %d, alone: Decode = %v, %d", i, got, e)
		}
	}
}

// filled are lists whose bytes are just MaxFrame: of few long cells, of the
// most cells that there can be.
func filled(t *testing.T) [][]api.Cell {
	t.Helper()
	few := slices.Repeat([]api.Cell{{Row: "r", Col: "c", Version: 1, Value: long(1 << 16)}}, 16)
	few[15].Value = long(len(few[15].Value) - (len(laid(few)) - api.MaxFrame))
	most := slices.Repeat(list("- c 1"), (api.MaxFrame-3)/6)
	most[len(most)-1].Value = long(api.MaxFrame - len(laid(most)))
	for _, l := range [][]api.Cell{few, most} {
		if len(laid(l)) != api.MaxFrame {
			t.Fatalf("%d cells of %d bytes", len(l), len(laid(l)))
		}
	}
	return [][]api.Cell{few, most}
}

func TestJustMaxFrameAndOneMore(t *testing.T) { // P4.3, R2
	for _, l := range filled(t) {
		s, e := Encode(l)
		if s != laid(l) || e != api.OK {
			t.Fatalf("%d cells: %d bytes, %d", len(l), len(s), e)
		}
		if got, e := Decode(s); !slices.Equal(got, l) || e != api.OK {
			t.Fatalf("%d cells: %d read, %d", len(l), len(got), e)
		}
		more := slices.Clone(l)
		more[0].Col += "d"
		for name, l := range map[string][]api.Cell{"a byte": more, "a cell": append(slices.Clone(l), l[0])} {
			if s, e := Encode(l); s != "" || e != api.ErrLong {
				t.Errorf("with %s more: Encode = %d bytes, %d", name, len(s), e)
			}
			if got, e := Decode(laid(l)); len(got) != 0 || e != api.ErrForm {
				t.Errorf("with %s more: Decode = %d cells, %d", name, len(got), e)
			}
			for _, c := range strangers() {
				for _, at := range []int{0, len(l) / 2, len(l)} {
					if s, e := Encode(slices.Insert(slices.Clone(l), at, c)); s != "" || e != api.ErrArg {
						t.Fatalf("with %s more, and one that may not be: Encode = %d bytes, %d", name, len(s), e)
					}
				}
			}
		}
	}
}

func TestFarTooLong(t *testing.T) { // P4.3, R1
	// One text in memory, but two hundred thousand times as many bytes.
	l := slices.Repeat([]api.Cell{{Row: "r", Col: "c", Version: 1, Value: long(1 << 16)}}, 200000)
	if s, e := Encode(l); s != "" || e != api.ErrLong {
		t.Errorf("Encode = %d bytes, %d", len(s), e)
	}
	if got, e := Decode(long(1 << 26)); len(got) != 0 || e != api.ErrForm {
		t.Errorf("Decode = %d cells, %d", len(got), e)
	}
	if got, e := Decode("\x00" + strings.Repeat("\x00", 1<<20)); len(got) != 0 || e != api.ErrForm {
		t.Errorf("Decode of noughts = %d cells, %d", len(got), e)
	}
}

func TestBytesOfNoList(t *testing.T) { // P4.3, W9, R2
	for _, digits := range []string{
		"", "80", "ff", // no count
		"8000", "8100 0161 0178 01 00 00", "ffffffffffffffffff02", "80808080808080808080 01", // no number's bytes
		"01", "00 00", "0000", "00 01", // more or fewer than the count says
		"02 0161 0178 01 00 00", "00 0161 0178 01 00 00", "01 0161 0178 01 00 00 00", "01 0161 0178 01 00 00 0162 0178 01 00 00",
		"ffffffffffffffffff01", "ffffffffffffffffff01 0161 0178 01 00 00", "80808080808080808001 0161 0178 01 00 00", "ffffffff0f 0161 0178 01 00 00",
		"01 810061 0178 01 00 00", "01 0161 810078 01 00 00", "01 0161 8000 01 00 00", // lengths not in their only form
		"01 0161 0178 8100 00 00", "01 0161 0178 ffffffffffffffffff02 00 00", "01 0161 0178 01 00 8000", "01 0161 0178 01 00 810076",
		"01 0161 0178 00 00 00", "01 0161 0178 818080808020 00 00", "01 0161 0178 ffffffffffffffffff01 00 00", // versions that may not be
		"01 00 00 01 00 00", "01 00 00 01 01 00", // neither row nor column
		"01 0161 0178 01 01 0176", "01 0161 0178 01 01 0100", // gone, with a value
		"01 0161 0178 01 00 ffffffffffffffffff01", "01 ffffffffffffffffff01 0178 01 00 00", "01 0161 80808080808080808001 01 00 00", // lengths beyond all bytes
	} {
		if got, e := Decode(unhex(t, digits)); len(got) != 0 || e != api.ErrForm {
			t.Errorf("Decode(%s) = %v, %d", digits, got, e)
		}
	}
}

func TestGoneIsNoughtOrOne(t *testing.T) { // P4.3, W9
	for b := range 256 {
		s := "\x01\x01a\x01x\x01" + string([]byte{byte(b)}) + "\x00"
		got, e := Decode(s)
		if b > 1 && (len(got) != 0 || e != api.ErrForm) {
			t.Errorf("with %d for Gone: %v, %d", b, got, e)
		}
		if b <= 1 && (e != api.OK || len(got) != 1 || got[0].Gone != (b == 1)) {
			t.Errorf("with %d for Gone: %v, %d", b, got, e)
		}
	}
}

func TestBytesCutOffOrWithMore(t *testing.T) { // P4.3, P4.4, R2
	chance := rand.New(rand.NewSource(3))
	for range 100 {
		s, e := Encode(picks(chance, 6, false))
		if e != api.OK {
			t.Fatal(e)
		}
		for n := range len(s) {
			if got, e := Decode(s[:n]); len(got) != 0 || e != api.ErrForm {
				t.Fatalf("%d bytes of %x: %v, %d", n, s, got, e)
			}
		}
		for _, more := range []string{"\x00", "\x01", "\x80", "\x01a\x01x\x01\x00\x00", s} {
			if got, e := Decode(s + more); len(got) != 0 || e != api.ErrForm {
				t.Fatalf("%x and %x: %v, %d", s, more, got, e)
			}
		}
	}
}

func TestACountThatIsNotTheCells(t *testing.T) { // P4.3, R1, R2
	for n := range 20 {
		cells := laid(slices.Repeat(list("a x 1 v"), n))[1:]
		for _, count := range []uint64{0, 1, 2, 10, 19, 127, 128, 1 << 20, 1 << 31, 1 << 32, 1<<32 + uint64(n), 1 << 63, 1<<63 + uint64(n), math.MaxUint64} {
			got, e := Decode(string(binary.AppendUvarint(nil, count)) + cells)
			if count == uint64(n) {
				if len(got) != n || e != api.OK {
					t.Errorf("%d cells: %v, %d", n, got, e)
				}
			} else if len(got) != 0 || e != api.ErrForm {
				t.Errorf("%d cells, counted as %d: %v, %d", n, count, got, e)
			}
		}
	}
}

func TestNoListsBytesBeginAnothers(t *testing.T) { // P4.4
	chance := rand.New(rand.NewSource(4))
	var all []string
	for range 400 {
		l := picks(chance, 3, false)
		s, e := Encode(l)
		if e != api.OK {
			t.Fatal(e)
		}
		all = append(all, s)
	}
	slices.Sort(all)
	all = slices.Compact(all)
	for i := 1; i < len(all); i++ {
		if strings.HasPrefix(all[i], all[i-1]) {
			t.Errorf("%x begins %x", all[i-1], all[i])
		}
	}
}

func TestWhatIsLaidIsReadBack(t *testing.T) { // P4.3, P4.4, W9
	chance := rand.New(rand.NewSource(5))
	for range 3000 {
		l := picks(chance, 20, false)
		s, e := Encode(l)
		if s != laid(l) || e != api.OK {
			t.Fatalf("Encode(%v) = %x, %d", l, s, e)
		}
		if got, e := Decode(s); !slices.Equal(got, l) || e != api.OK {
			t.Fatalf("Decode(%x) = %v, %d", s, got, e)
		}
		// One byte another one: no list's bytes, or another list's.
		b := []byte(s)
		b[chance.Intn(len(b))] ^= byte(1 + chance.Intn(255))
		got, e := Decode(string(b))
		if e == api.OK && (slices.Equal(got, l) || laid(got) != string(b)) {
			t.Fatalf("Decode(%x) = %v", b, got)
		}
	}
}

func FuzzWhatIsDecodedWasEncodedSo(f *testing.F) { // P4.1, P4.3, P4.4, W9, R1, R2
	f.Add("")
	f.Add("\x00")
	f.Add("\x01\x01a\x01x\x01\x00\x01v")
	f.Add("\x03\x01a\x01x\xac\x02\x00\x01v\x00\x03own\x01\x00\x00\x01b\x01x\x02\x01\x00")
	f.Add("\xff\xff\xff\xff\xff\xff\xff\xff\xff\x01\x01a\x01x\x01\x00\x00")
	f.Fuzz(func(t *testing.T, s string) {
		l, e := Decode(s)
		if e != api.OK {
			if e != api.ErrForm || len(l) != 0 {
				t.Fatalf("Decode(%x) = %v, %d", s, l, e)
			}
			return
		}
		if !slices.Equal(slices.DeleteFunc(slices.Clone(l), func(c api.Cell) bool { return !mayBe(c) }), l) {
			t.Fatalf("Decode(%x) = %v", s, l)
		}
		if got, e := Encode(l); got != s || e != api.OK {
			t.Fatalf("Encode of Decode of %x = %x, %d", s, got, e)
		}
		if got := Alive(l); !slices.Equal(got, slowAlive(l)) {
			t.Fatalf("Alive(%v) = %v", l, got)
		}
	})
}

// apart are cells of which no two are of one Row, Col and Version.
func apart(chance *rand.Rand, most int) []api.Cell {
	l := slowSort(picks(chance, most, true))
	chance.Shuffle(len(l), func(i, j int) { l[i], l[j] = l[j], l[i] })
	return l
}

func TestSortAgainAndInAnotherOrder(t *testing.T) { // P4.5
	chance := rand.New(rand.NewSource(6))
	for range 1000 {
		l := picks(chance, 30, true)
		sorted := Sort(l)
		if again := Sort(sorted); !slices.Equal(again, sorted) {
			t.Fatalf("Sort(%v) = %v", sorted, again)
		}
		if got := Newest(sorted); !slices.Equal(got, Newest(l)) {
			t.Fatalf("Newest(%v) = %v", sorted, got)
		}
		l = apart(chance, 30)
		sorted = Sort(l)
		if len(sorted) != len(l) {
			t.Fatalf("Sort(%v) = %v", l, sorted)
		}
		for range 3 {
			chance.Shuffle(len(l), func(i, j int) { l[i], l[j] = l[j], l[i] })
			if got := Sort(l); !slices.Equal(got, sorted) {
				t.Fatalf("Sort(%v) = %v, in another order %v", l, got, sorted)
			}
		}
	}
}

func TestNewestOfTwoLists(t *testing.T) { // P4.5
	chance := rand.New(rand.NewSource(7))
	for range 1000 {
		l := apart(chance, 40)
		for _, at := range []int{0, chance.Intn(len(l) + 1), len(l)} {
			one, two := l[:at:at], l[at:]
			whole, parts := Newest(slices.Concat(one, two)), Newest(slices.Concat(Newest(one), Newest(two)))
			if !slices.Equal(whole, parts) {
				t.Fatalf("Newest of %v and %v: %v, of the newest of each %v", one, two, whole, parts)
			}
		}
	}
}

func TestWithinRangesThatDoNotMeet(t *testing.T) { // P4.5
	chance := rand.New(rand.NewSource(8))
	ends := []string{"", "\x00", "a", "a\x00", "ab", "b", "\x80", long(25), long(33)}
	var ranges []api.Range
	for _, low := range ends {
		for _, high := range ends {
			ranges = append(ranges, api.Range{Low: low, High: high})
		}
	}
	l := slowSort(picks(chance, 400, true))
	for _, a := range ranges {
		for _, b := range ranges {
			if keys.Meet(a, b) {
				continue
			}
			one, two := Within(l, a), Within(l, b)
			if slices.ContainsFunc(one, func(c api.Cell) bool { return slices.Contains(two, c) }) {
				t.Errorf("%q and %q do not meet, but have %v and %v", a, b, one, two)
			}
		}
	}
}

func TestNoCells(t *testing.T) { // P4.1, P4.2, P4.3, R4
	for _, l := range [][]api.Cell{nil, {}} {
		if len(Sort(l)) != 0 || len(Newest(l)) != 0 || len(Alive(l)) != 0 || len(Within(l, api.Range{})) != 0 {
			t.Errorf("of no cells: %v, %v, %v, %v", Sort(l), Newest(l), Alive(l), Within(l, api.Range{}))
		}
		if s, e := Encode(l); s != "\x00" || e != api.OK {
			t.Errorf("Encode of no cells = %x, %d", s, e)
		}
	}
	if l, e := Decode("\x00"); len(l) != 0 || e != api.OK {
		t.Errorf("Decode of no cells = %v, %d", l, e)
	}
}

func TestManyCells(t *testing.T) { // P4.1, P4.2, R1
	const many = 200000
	l := make([]api.Cell, many)
	for i := range l {
		l[i] = api.Cell{Row: fmt.Sprintf("%06d", (many-1-i)/2), Col: "x", Version: uint64(1 + i%2), Gone: i%4 == 1}
	}
	sorted := Sort(l)
	if len(sorted) != many || !slices.IsSortedFunc(sorted, keys.Cmp) {
		t.Errorf("Sort: %d cells", len(sorted))
	}
	if got := Newest(l); len(got) != many/2 || slices.ContainsFunc(got, func(c api.Cell) bool { return c.Version != 2 }) {
		t.Errorf("Newest: %d cells", len(got))
	}
	if got := Alive(l); len(got) != many/4 || slices.ContainsFunc(got, func(c api.Cell) bool { return c.Gone }) {
		t.Errorf("Alive: %d cells", len(got))
	}
	if got := Within(l, api.Range{Low: "000100", High: "000200"}); !slices.Equal(got, l[many-400:many-200]) {
		t.Errorf("Within: %d cells", len(got))
	}
	alike := slices.Repeat(list("a x 1 v"), many)
	if got := Sort(alike); !slices.Equal(got, alike[:1]) {
		t.Errorf("Sort of one cell again and again: %d cells", len(got))
	}
}

func shares(a, b string) bool {
	begins := func(s string) uintptr { return uintptr(unsafe.Pointer(unsafe.StringData(s))) }
	return begins(a) < begins(b)+uintptr(len(b)) && begins(b) < begins(a)+uintptr(len(a))
}

func TestAnswersAreNewMemory(t *testing.T) { // R5
	whole := []api.Cell{
		{Row: long(20), Col: long(10), Version: 2, Value: long(30)},
		{Row: long(21), Col: long(11), Version: 1, Value: long(31)},
	}
	for name, call := range map[string]func(l []api.Cell) []api.Cell{
		"Sort":   Sort,
		"Newest": Newest,
		"Alive":  Alive,
		"Within": func(l []api.Cell) []api.Cell { return Within(l, api.Range{}) },
	} {
		l := slices.Clone(whole)
		got, other := call(l), call(l)
		if !slices.Equal(got, whole) || !slices.Equal(other, whole) {
			t.Fatalf("%s = %v", name, got)
		}
		for i := range got {
			for _, in := range []api.Cell{l[i], other[i]} {
				if shares(got[i].Row, in.Row) || shares(got[i].Col, in.Col) || shares(got[i].Value, in.Value) {
					t.Errorf("%s: what is answered shares its texts", name)
				}
			}
		}
		got[0], got[1] = api.Cell{}, api.Cell{}
		_ = append(got[:0:cap(got)], make([]api.Cell, cap(got))...)
		if !slices.Equal(l, whole) || !slices.Equal(other, whole) {
			t.Errorf("%s: what is answered is the memory of another one", name)
		}
	}
	s := laid(whole)
	got, e := Decode(s)
	if !slices.Equal(got, whole) || e != api.OK {
		t.Fatalf("Decode = %v, %d", got, e)
	}
	for _, c := range got {
		if shares(c.Row, s) || shares(c.Col, s) || shares(c.Value, s) {
			t.Error("Decode: what is answered shares its texts")
		}
	}
}

func TestListsHandedInAreNotChanged(t *testing.T) { // R5
	whole := list("b x 1, a x 1, a x 2 gone, a x 2, a x 2 gone, c x 1 gone, b x 1, a x 9 behind, a a 1 the, - a 1 end")
	kept := slices.Clone(whole)
	for n := range len(whole) + 1 {
		l := whole[:n]
		Sort(l)
		Newest(l)
		Alive(l)
		Within(l, api.Range{Low: "a", High: "b"})
		Encode(l)
		if !slices.Equal(whole, kept) {
			t.Fatalf("with %d handed in they are %v", n, whole)
		}
	}
}
