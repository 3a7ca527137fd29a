package block

import (
	"crypto/sha256"
	"encoding/binary"
	"encoding/hex"
	"fmt"
	"math"
	"math/rand"
	"slices"
	"strconv"
	"strings"
	"testing"
	"unsafe"

	"acreage/api"
)

// ahead says whether a is ahead of b, byte by byte, a beginning ahead of the whole.
func ahead(a, b string) bool {
	for i := range min(len(a), len(b)) {
		if a[i] != b[i] {
			return a[i] < b[i]
		}
	}
	return len(a) < len(b)
}

// isAhead is the order of cells as DOC.md words it.
func isAhead(a, b api.Cell) bool {
	if a.Row != b.Row {
		return ahead(a.Row, b.Row)
	}
	if a.Col != b.Col {
		return ahead(a.Col, b.Col)
	}
	return a.Version > b.Version
}

// mayBe says whether a cell may be, as DOC.md words it.
func mayBe(c api.Cell) bool {
	return len(c.Row) <= 32 && len(c.Col) <= 16 && (c.Col != "" || c.Row != "") &&
		c.Version >= 1 && c.Version <= 1<<40 &&
		len(c.Value) <= 1<<16 && (!c.Gone || c.Value == "")
}

// laidCell are the bytes of a cell as the chapter words them, if so many bytes
// are told to be shared.
func laidCell(c api.Cell, shared int) []byte {
	b := binary.AppendUvarint(nil, uint64(shared))
	text := func(s string) { b = append(binary.AppendUvarint(b, uint64(len(s))), s...) }
	text(c.Row[shared:])
	text(c.Col)
	b = binary.AppendUvarint(b, c.Version)
	if c.Gone {
		b = append(b, 1)
	} else {
		b = append(b, 0)
	}
	text(c.Value)
	return b
}

// laid are the bytes of a block as the chapter words them, of cells that may
// not be, or are no block's, too.
func laid(l []api.Cell) string {
	var b []byte
	var places []int
	for i, c := range l {
		shared := 0
		if i%8 == 0 {
			places = append(places, len(b))
		} else {
			for shared < len(c.Row) && strings.HasPrefix(l[i-1].Row, c.Row[:shared+1]) {
				shared++
			}
		}
		b = append(b, laidCell(c, shared)...)
	}
	return string(b) + laidTail(places...)
}

func laidTail(places ...int) string {
	var b []byte
	for _, p := range places {
		b = binary.BigEndian.AppendUint16(b, uint16(p))
	}
	return string(binary.BigEndian.AppendUint16(b, uint16(len(places))))
}

// slowBuild is Build as P10.1 words it.
func slowBuild(l []api.Cell) (string, api.Errno) {
	for i, c := range l {
		if !mayBe(c) || i > 0 && !isAhead(l[i-1], c) {
			return "", api.ErrArg
		}
	}
	if s := laid(l); len(s) <= 32768 {
		return s, api.OK
	}
	return "", api.ErrLong
}

// slowRead is Read as P10.2 words it: whatever could be made of s at all is
// laid anew, and held against s.
func slowRead(s string) ([]api.Cell, api.Errno) {
	if len(s) < 2 {
		return nil, api.ErrForm
	}
	end := len(s) - 2 - 2*(256*int(s[len(s)-2])+int(s[len(s)-1]))
	if end < 0 {
		return nil, api.ErrForm
	}
	b, all := []byte(s[:end]), true
	number := func() uint64 {
		v, n := binary.Uvarint(b)
		if n <= 0 {
			b, all = nil, false
			return 0
		}
		b = b[n:]
		return v
	}
	text := func() string {
		n := number()
		if n > uint64(len(b)) {
			b, all = nil, false
			return ""
		}
		t := string(b[:n])
		b = b[n:]
		return t
	}
	var l []api.Cell
	before := ""
	for len(b) > 0 {
		shared := number()
		if shared > uint64(len(before)) {
			return nil, api.ErrForm
		}
		c := api.Cell{Row: before[:shared] + text(), Col: text(), Version: number(), Gone: number() == 1, Value: text()}
		l, before = append(l, c), c.Row
	}
	if again, e := slowBuild(l); !all || again != s || e != api.OK {
		return nil, api.ErrForm
	}
	return l, api.OK
}

// slowFind is Find as P10.3 words it.
func slowFind(s, row, col string) (api.Cell, bool, api.Errno) {
	l, e := slowRead(s)
	if e != api.OK {
		return api.Cell{}, false, e
	}
	var newest api.Cell
	for _, c := range l {
		if c.Row == row && c.Col == col && c.Version > newest.Version {
			newest = c
		}
	}
	return newest, newest.Version > 0, api.OK
}

// list reads cells that are written as the chapter writes them, parted by
// commas: row, column, version, and gone or a value; - is an empty text.
func list(s string) (l []api.Cell) {
	for part := range strings.SplitSeq(s, ",") {
		words := strings.Fields(part)
		if len(words) == 0 {
			continue
		}
		for i, w := range words {
			words[i] = strings.ReplaceAll(w, "-", "")
		}
		version, err := strconv.ParseUint(words[2], 10, 64)
		if err != nil {
			panic(err)
		}
		c := api.Cell{Row: words[0], Col: words[1], Version: version}
		for _, w := range words[3:] {
			if w == "gone" {
				c.Gone = true
			} else {
				c.Value = w
			}
		}
		l = append(l, c)
	}
	return l
}

// one is the only cell that is written so.
func one(s string) api.Cell { return list(s)[0] }

func unhex(digits string) string {
	b, err := hex.DecodeString(strings.ReplaceAll(digits, " ", ""))
	if err != nil {
		panic(err)
	}
	return string(b)
}

func long(n int) string { return strings.Repeat("x", n) }

// short tells bytes, or how many of them there are.
func short(s string) string {
	if len(s) > 60 {
		return fmt.Sprintf("%x.. (%d bytes)", s[:60], len(s))
	}
	return fmt.Sprintf("%x", s)
}

// told tells cells, or the first of them.
func told(l []api.Cell) string {
	s := ""
	for i, c := range l {
		if i == 20 {
			return s + fmt.Sprintf("and so on (%d cells)", len(l))
		}
		s += fmt.Sprintf("%.40q %.20q %d %t %.20q, ", c.Row, c.Col, c.Version, c.Gone, c.Value)
	}
	return s
}

// mustBuild holds Build and Read against the words, and tells the bytes.
func mustBuild(t *testing.T, l []api.Cell) string {
	t.Helper()
	want, wantE := slowBuild(l)
	s, e := Build(l)
	if s != want || e != wantE {
		t.Fatalf("Build(%d cells) = %s, %d, not %s, %d", len(l), short(s), e, short(want), wantE)
	}
	if e == api.OK {
		if again, e := Read(s); !slices.Equal(again, l) || e != api.OK {
			t.Fatalf("Read(%s) = %s, %d", short(s), told(again), e)
		}
	}
	return s
}

// made are the bytes of cells that must be a block's.
func made(t *testing.T, l []api.Cell) string {
	t.Helper()
	s := mustBuild(t, l)
	if s == "" {
		t.Fatalf("%d cells are no block's", len(l))
	}
	return s
}

// mustRefuse holds Build to an error.
func mustRefuse(t *testing.T, l []api.Cell, want api.Errno) {
	t.Helper()
	if s, e := Build(l); s != "" || e != want {
		t.Errorf("Build(%s) = %s, %d, not %d", told(l), short(s), e, want)
	}
	mustBuild(t, l)
}

// mustBeNone holds Read and Find to ErrForm.
func mustBeNone(t *testing.T, s string) {
	t.Helper()
	if l, e := Read(s); len(l) != 0 || e != api.ErrForm {
		t.Errorf("Read(%s) = %s, %d", short(s), told(l), e)
	}
	if c, is, e := Find(s, "a", "x"); c != (api.Cell{}) || is || e != api.ErrForm {
		t.Errorf("Find(%s, a, x) = %v, %t, %d", short(s), c, is, e)
	}
}

// mustRead holds Read against the words, of any bytes, and tells the cells.
func mustRead(t *testing.T, s string) []api.Cell {
	t.Helper()
	want, wantE := slowRead(s)
	l, e := Read(s)
	if !slices.Equal(l, want) || e != wantE {
		t.Fatalf("Read(%s) = %s, %d, not %s, %d", short(s), told(l), e, told(want), wantE)
	}
	return l
}

// mustFind holds Find against the words, of any bytes.
func mustFind(t *testing.T, s, row, col string) {
	t.Helper()
	want, wantIs, wantE := slowFind(s, row, col)
	c, is, e := Find(s, row, col)
	if c != want || is != wantIs || e != wantE {
		t.Fatalf("Find(%s, %q, %q) = %v, %t, %d, not %v, %t, %d", short(s), row, col, c, is, e, want, wantIs, wantE)
	}
}

// findAll looks for each place of the cells, and for those close to it.
func findAll(t *testing.T, l []api.Cell) {
	t.Helper()
	s := made(t, l)
	for _, c := range l {
		for _, row := range []string{c.Row, c.Row + "\x00", c.Row + "\xff", c.Row[:max(len(c.Row)-1, 0)]} {
			for _, col := range []string{c.Col, c.Col + "\x00", c.Col[:max(len(c.Col)-1, 0)]} {
				mustFind(t, s, row, col)
			}
		}
	}
	mustFind(t, s, "", "")
	mustFind(t, s, "", "\x00")
	mustFind(t, s, strings.Repeat("\xff", 40), strings.Repeat("\xff", 40))
}

// versions are n cells of one place, every other one gone.
func versions(n int) (l []api.Cell) {
	for v := n; v > 0; v-- {
		l = append(l, api.Cell{Row: "row", Col: "x", Version: uint64(v), Gone: v%2 == 0})
	}
	return l
}

// growing are n rows, each the beginning of the next one.
func growing(n int) (l []api.Cell) {
	for i := range n {
		l = append(l, api.Cell{Row: strings.Repeat("a", i+1), Version: uint64(i + 1)})
	}
	return l
}

// apart are n rows that have nothing in common.
func apart(n int) (l []api.Cell) {
	for i := range n {
		l = append(l, api.Cell{Row: string([]byte{byte('a' + i)}), Col: "x", Version: 1})
	}
	return l
}

// alike are n rows that begin alike, with two columns each.
func alike(n int) (l []api.Cell) {
	for i := range n {
		row := fmt.Sprintf("row%04d", i/2)
		l = append(l, api.Cell{Row: row, Col: "xy"[i%2 : i%2+1], Version: uint64(i + 1), Value: strings.Repeat("v", i%5)})
	}
	return l
}

// kinds are lists at the edges of what a block may have.
func kinds() map[string][]api.Cell {
	full := api.Cell{Row: strings.Repeat("r", 32), Col: strings.Repeat("c", 16), Version: 1 << 40, Value: long(256)}
	all := map[string][]api.Cell{
		"none":     nil,
		"one":      list("ab x 1 v"),
		"the own":  list("- e 1099511627776 v, - ee 1, a - 1"),
		"greatest": {full},
		"strange": {
			{Row: "\x00", Col: "\x00", Version: 128, Value: "\x00"},
			{Row: "\x00\xff", Col: "\xff", Version: 127, Gone: true},
			{Row: "\x80", Col: "x", Version: 1, Value: "\xff\x00\x80"},
			{Row: "\xff\x00", Col: "\xff", Version: 300, Value: "\xff\x00"},
			{Row: "\xff\xff", Version: 1},
		},
		"shorter": list("abcd x 1, abd x 1, ac x 1, b x 1"),
		"places":  list("a - 3, a x 2 gone, a x 1 v, a xx 9, a y 1, aa - 1, ab x 2 v, ab x 1 gone"),
	}
	for _, n := range []int{2, 7, 8, 9, 15, 16, 17, 24, 25} {
		all[fmt.Sprint(n, " versions")] = versions(n)
		all[fmt.Sprint(n, " growing")] = growing(n)
		all[fmt.Sprint(n, " apart")] = apart(n)
		all[fmt.Sprint(n, " alike")] = alike(n)
	}
	return all
}

func TestTheChaptersExamples(t *testing.T) { // P10.1 to P10.3
	three := "ab x 2 v, ab x 1 gone, abc y 3"
	for _, c := range []struct{ l, want string }{
		{"", "00 00"},
		{"ab x 1 v", "00 02 61 62 01 78 01 00 01 76 0000 0001"},
		{three, "00 02 61 62 01 78 02 00 01 76 02 00 01 78 01 01 00 02 01 63 01 79 03 00 00 0000 0001"},
	} {
		if s, e := Build(list(c.l)); s != unhex(c.want) || e != api.OK {
			t.Errorf("Build(%s) = %x, %d", c.l, s, e)
		}
		if l, e := Read(unhex(c.want)); !slices.Equal(l, list(c.l)) || e != api.OK {
			t.Errorf("Read(%s) = %v, %d", c.want, l, e)
		}
	}
	mustRefuse(t, list("b x 1, a x 1"), api.ErrArg)
	mustRefuse(t, list("a x 1, a x 1"), api.ErrArg)
	mustBeNone(t, "")
	mustBeNone(t, "\x00\x01")
	s := made(t, list(three))
	for _, c := range []struct {
		row, col string
		want     api.Cell
		is       bool
	}{
		{"ab", "x", one("ab x 2 v"), true},
		{"abc", "y", one("abc y 3"), true},
		{"abc", "x", api.Cell{}, false},
	} {
		if got, is, e := Find(s, c.row, c.col); got != c.want || is != c.is || e != api.OK {
			t.Errorf("Find(%s, %s) = %v, %t, %d", c.row, c.col, got, is, e)
		}
	}
}

func TestBlocksWorkedOutElsewhere(t *testing.T) { // P10.1, P10.2
	for _, c := range []struct {
		l    []api.Cell
		want string
	}{
		{[]api.Cell{{Col: "e", Version: 1 << 40, Value: "\x00\xff"}}, "00000165808080808020000200ff00000001"},
		{versions(9), "0003726f770178090000030001780801000300017807000003000178060100030001780500000300017804010003000178030000030001780201000003726f7701780100000000003b0002"},
		{growing(9), "0001610001000001016100020000020161000300000301610004000004016100050000050161000600000601610007000007016100080000000961616161616161616100090000000000380002"},
		{kinds()["strange"][:2], "000100010080010001000101ff01ff7f010000000001"},
		{
			[]api.Cell{
				{Row: "\x00", Col: "\x00", Version: 128, Value: "\x00"},
				{Row: "\x00\xff", Col: "\xff", Version: 127, Gone: true},
				{Row: "\xff\x00", Col: "\xff", Version: 300, Value: "\xff\x00"},
				{Row: "\xff\xff", Version: 1},
			},
			"000100010080010001000101ff01ff7f01000002ff0001ffac020002ff000101ff0001000000000001",
		},
		{
			[]api.Cell{
				{Row: strings.Repeat("r", 32), Col: strings.Repeat("c", 16), Version: 1 << 40},
				{Row: strings.Repeat("r", 31) + "s", Col: strings.Repeat("c", 16), Version: 16384, Gone: true},
				{Row: "s", Col: "c", Version: 16383, Value: "vvv"},
			},
			"00207272727272727272727272727272727272727272727272727272727272727272106363636363636363636363636363636380808080802000001f0173106363636363636363636363636363636380800101000001730163ff7f000376767600000001",
		},
		{apart(17), "00016101780100000001620178010000000163017801000000016401780100000001650178010000000166017801000000016701780100000001680178010000000169017801000000016a017801000000016b017801000000016c017801000000016d017801000000016e017801000000016f0178010000000170017801000000017101780100000000004000800003"},
	} {
		if s, e := Build(c.l); s != unhex(c.want) || e != api.OK {
			t.Errorf("Build(%v) = %x, %d, not %s", c.l, s, e, c.want)
		}
		if l, e := Read(unhex(c.want)); !slices.Equal(l, c.l) || e != api.OK {
			t.Errorf("Read(%s) = %v, %d", c.want, l, e)
		}
	}
	var l []api.Cell
	for i := range 300 {
		c := api.Cell{Row: fmt.Sprint("k", 1000+i), Col: "col", Version: uint64(i + 1), Gone: i%3 == 0}
		if !c.Gone {
			c.Value = strings.Repeat("v", i%200)
		}
		l = append(l, c)
	}
	s := made(t, l)
	if sum := fmt.Sprintf("%x", sha256.Sum256([]byte(s))); len(s) != 20074 || sum != "60cd71f3ff1b043767e3939d1e23942b9189792a7781c016615f9783e36e3cf8" {
		t.Errorf("of 300 cells: %d bytes, %s", len(s), sum)
	}
}

func TestCellsOfAllKindsAreLaidAsWorded(t *testing.T) { // P10.1, P10.4
	for _, l := range kinds() {
		made(t, l)
		for n := range l {
			made(t, l[:n])
			made(t, l[n:])
		}
	}
}

func TestWholeCellsBeginEachEighth(t *testing.T) { // P10.1
	// Of one row: only a whole cell has it once more.
	for n := range 80 {
		s := made(t, versions(n))
		wholes := (n + 7) / 8
		if got := strings.Count(s, "row"); got != wholes {
			t.Errorf("of %d cells: %d are whole, not %d", n, got, wholes)
		}
		if !strings.HasSuffix(s, string([]byte{0, byte(wholes)})) {
			t.Errorf("of %d cells: % x behind them", n, s[len(s)-2:])
		}
		for i := range wholes {
			at := len(s) - 2 - 2*wholes + 2*i
			place := 256*int(s[at]) + int(s[at+1])
			if !strings.HasPrefix(s[place:], "\x00\x03row\x01x") {
				t.Errorf("of %d cells: no whole one at the place %d", n, place)
			}
		}
	}
}

func TestHowMuchOfARowIsShared(t *testing.T) { // P10.1, P10.2
	for _, c := range []struct {
		before, row string
		shared      byte
	}{
		{"a", "a", 1}, {"a", "b", 0}, {"a", "ab", 1}, {"ab", "ac", 1}, {"ab", "b", 0}, {"", "a", 0},
		{"\x00", "\x00\x00", 1}, {"\x00\xff", "\xff\x00", 0}, {"\xfe\xff", "\xff\xff", 0}, {"abcd", "abd", 2}, {"abcx", "abdx", 2},
		{long(31), long(32), 31}, {long(32), long(32), 32}, {long(32), long(31) + "y", 31}, {"\u00e4", "\u00e5", 1},
	} {
		first, second := api.Cell{Row: c.before, Col: "a", Version: 7}, api.Cell{Row: c.row, Col: "b", Version: 9}
		s := made(t, []api.Cell{first, second})
		whole := len(laidCell(first, 0))
		if s[whole] != c.shared {
			t.Errorf("%q behind %q: shared are %d, not %d", c.row, c.before, s[whole], c.shared)
		}
		for told := range len(c.row) + 1 {
			other := string(append(laidCell(first, 0), laidCell(second, told)...)) + laidTail(0)
			mustRead(t, other) // too long a beginning may be that of another row
			if told < int(c.shared) || told > len(c.before) {
				mustBeNone(t, other)
			}
		}
	}
}

// filled are n cells, the last with a value so long that the bytes are so many.
func filled(t *testing.T, n, size int) []api.Cell {
	t.Helper()
	var l []api.Cell
	for i := range n {
		l = append(l, api.Cell{Row: fmt.Sprintf("%06d", i), Col: "x", Version: 1})
	}
	free := size - len(laid(l))
	for more := range 3 { // how many bytes more its length takes
		l[n-1].Value = long(free - more)
		if len(laid(l)) == size {
			return l
		}
	}
	t.Fatalf("no %d cells have %d bytes", n, size)
	return nil
}

func TestAsManyBytesAsABlockMayHave(t *testing.T) { // P10.1 to P10.3
	for _, n := range []int{1, 2, 7, 8, 9, 64, 65, 1000, 2400} {
		base := filled(t, n, 1<<15-100)
		at := len(base) - 1
		var value int
		for size := 1<<15 - 3; size <= 1<<15; size++ {
			value = len(base[at].Value) + size - (1<<15 - 100)
			l := slices.Clone(base)
			l[at].Value = long(value)
			s := made(t, l)
			if len(s) != size {
				t.Fatalf("of %d cells: %d bytes, not %d", n, len(s), size)
			}
			mustFind(t, s, l[at].Row, "x")
			mustFind(t, s, l[at].Row, "y")
			mustFind(t, s, l[0].Row, "x")
		}
		for _, more := range []int{1, 2, 3, 4, 5, 100} {
			l := slices.Clone(base)
			l[at].Value = long(value + more)
			mustRefuse(t, l, api.ErrLong)
			mustBeNone(t, laid(l))
		}
	}
}

func TestWhatBuildRefusesAsTooLong(t *testing.T) { // P10.1, R2
	for _, n := range []int{1<<15 - 11, 1 << 15, 1<<16 - 1, 1 << 16} {
		mustRefuse(t, []api.Cell{{Row: "a", Col: "x", Version: 1, Value: long(n)}}, api.ErrLong)
		mustRefuse(t, []api.Cell{{Row: "a", Col: "x", Version: 2}, {Row: "a", Col: "x", Version: 1, Value: long(n)}, {Row: "b", Version: 1}}, api.ErrLong)
	}
	for _, n := range []int{4000, 20000, 100000} {
		mustRefuse(t, versions(n), api.ErrLong)
	}
}

// wrong are cells that may not be, in each way.
func wrong() []api.Cell {
	return []api.Cell{
		{},
		{Version: 1},
		{Version: 1, Value: "v"},
		{Row: "m", Col: "x"},
		{Row: "m", Col: "x", Version: 1<<40 + 1},
		{Row: "m", Col: "x", Version: 1 << 63},
		{Row: "m", Col: "x", Version: math.MaxUint64},
		{Row: "m" + long(32), Col: "x", Version: 1},
		{Row: "m" + long(1<<15), Col: "x", Version: 1},
		{Row: "m", Col: long(17), Version: 1},
		{Row: "m", Col: long(1 << 15), Version: 1},
		{Row: "m", Col: "x", Version: 1, Gone: true, Value: "v"},
		{Row: "m", Col: "x", Version: 1, Gone: true, Value: long(1 << 16)},
		{Row: "m", Col: "x", Version: 1, Value: long(1<<16 + 1)},
	}
}

func TestCellsThatMayNotBeAreRefused(t *testing.T) { // P10.1, P10.2, R2
	for _, c := range wrong() {
		mustRefuse(t, []api.Cell{c}, api.ErrArg)
		mustBeNone(t, laid([]api.Cell{c}))
		for _, around := range [][]api.Cell{growing(1), growing(7), growing(8), growing(20)} {
			l := append(slices.Clone(around), c)
			if c.Row == "" {
				l = append([]api.Cell{c}, around...)
			}
			mustRefuse(t, l, api.ErrArg)
			mustBeNone(t, laid(l))
			l = append(l, api.Cell{Row: "z", Version: 1})
			mustRefuse(t, l, api.ErrArg)
			mustBeNone(t, laid(l))
		}
		// Too many bytes as well, ahead of it and behind it.
		big := api.Cell{Row: "a", Col: "x", Version: 1, Value: long(1 << 15)}
		mustRefuse(t, []api.Cell{big, c}, api.ErrArg)
		big.Row = "z"
		mustRefuse(t, []api.Cell{c, big}, api.ErrArg)
		mustRefuse(t, append(versions(20000), c), api.ErrArg)
	}
}

func TestCellsThatAreNoBlocksAreRefused(t *testing.T) { // P10.1, P10.2, R2
	for _, s := range []string{
		"b x 1, a x 1", "a x 1, a x 1", "a x 1, a x 2", "a y 1, a x 1", "a y 1, a x 2", "a x 1, a - 1", "ab x 1, a x 1", "a x 1, - x 1",
		"a x 2 v, a x 2 gone", "a x 2 gone, a x 2", "a x 1 v, a x 1 w", "a xx 1, a x 1", "b - 1, a z 9", "a x 1, b x 1, a x 1",
	} {
		mustRefuse(t, list(s), api.ErrArg)
		mustBeNone(t, laid(list(s)))
	}
	// Wherever in the list: within an eighth, and where one begins.
	for _, l := range [][]api.Cell{versions(20), growing(20), apart(20), alike(20)} {
		for i := range l {
			twice := slices.Insert(slices.Clone(l), i, l[i])
			mustRefuse(t, twice, api.ErrArg)
			mustBeNone(t, laid(twice))
			for j := range i {
				turned := slices.Clone(l)
				turned[i], turned[j] = turned[j], turned[i]
				mustRefuse(t, turned, api.ErrArg)
				mustBeNone(t, laid(turned))
			}
		}
	}
	// Too many bytes as well.
	big := api.Cell{Row: "z", Col: "x", Version: 1, Value: long(1 << 15)}
	mustRefuse(t, []api.Cell{big, big}, api.ErrArg)
	mustRefuse(t, []api.Cell{big, one("a x 1")}, api.ErrArg)
	mustRefuse(t, append(versions(20000), one("a x 1")), api.ErrArg)
}

func TestFewBytesThatAreNone(t *testing.T) { // P10.2, P10.3
	mustBeNone(t, "")
	for i := range 256 {
		mustBeNone(t, string([]byte{byte(i)}))
		for j := range 256 {
			s := string([]byte{byte(i), byte(j)})
			if i+j > 0 {
				mustBeNone(t, s)
			}
			for _, rest := range []string{"\x00\x00", "\x00\x01", "\x00\x02", "\x01\x00", "\xff\xff"} {
				mustBeNone(t, s+rest)
			}
		}
		mustBeNone(t, string([]byte{byte(i)})+"\x00\x00")
	}
	if l := mustRead(t, "\x00\x00"); len(l) != 0 {
		t.Errorf("two bytes 0 have %v", l)
	}
	for _, n := range []int{3, 4, 5, 6, 100, 1<<15 - 1, 1 << 15, 1<<15 + 1, 1 << 16, 1<<17 + 2, 1 << 20} {
		for _, fill := range []string{"\x00", "\x01", "\x02", "\x7f", "\x80", "\xff"} {
			mustBeNone(t, strings.Repeat(fill, n))
			mustBeNone(t, strings.Repeat(fill, n)+"\x00\x00")
		}
	}
}

func TestBytesOfABlockThatAreChanged(t *testing.T) { // P10.2, P10.3
	for name, l := range kinds() {
		s := made(t, l)
		for n := range s {
			if s[:n] != "\x00\x00" { // the block of no cells
				mustBeNone(t, s[:n])
			}
			mustRead(t, s[n:])
		}
		for b := range 256 {
			more := string([]byte{byte(b)})
			mustRead(t, s+more)
			mustRead(t, more+s)
		}
		mustBeNone(t, s+"\x00")
		refused := 0
		for at := range s {
			raw := []byte(s)
			for b := range 256 {
				// Of the long ones not all bytes: each is read as a whole.
				if raw[at] = byte(b); len(s) > 100 && (at+b)%7 > 0 || raw[at] == s[at] {
					continue
				}
				if mustRead(t, string(raw)) == nil {
					refused++
				}
			}
		}
		if len(l) > 0 && refused == 0 {
			t.Errorf("%s: no other byte is refused", name)
		}
		for at := range s {
			mustRead(t, s[:at]+s[at+1:])
			mustRead(t, s[:at]+s[at:at+1]+s[at:])
			mustRead(t, s[:at]+"\x00"+s[at:])
		}
	}
}

func TestSharedBeginningsThatAreLies(t *testing.T) { // P10.2
	l := growing(9)
	before := func(n int) string { // the bytes of the first cells, without what stands behind
		s := laid(l[:n])
		return s[:len(s)-2-2*((n+7)/8)]
	}
	for n := 1; n < 8; n++ {
		c := l[n]
		for told := range n + 2 {
			s := before(n) + string(laidCell(c, told)) + laidTail(0)
			if told == n {
				if got := mustRead(t, s); !slices.Equal(got, l[:n+1]) {
					t.Errorf("%d cells: %v", n+1, got)
				}
				continue
			}
			mustBeNone(t, s)
		}
		// More than the row ahead has, up to huge numbers.
		for _, told := range []uint64{uint64(n + 1), 33, 127, 128, 1 << 31, 1 << 32, 1<<63 - 1, 1 << 63, math.MaxUint64} {
			b := append(binary.AppendUvarint(nil, told), laidCell(api.Cell{Row: "b", Version: 1}, 0)[1:]...)
			mustBeNone(t, before(n)+string(b)+laidTail(0))
		}
	}
	// A whole one shares nothing, whatever stands ahead of it.
	for told := 1; told <= 8; told++ {
		mustBeNone(t, before(8)+string(laidCell(l[8], told))+laidTail(0, len(before(8))))
		mustBeNone(t, string(laidCell(l[8], told))+laidTail(0))
	}
	made(t, l)
	// Shared bytes of an eighth that is laid as a common one, and the other way round.
	mustBeNone(t, before(8)+string(laidCell(l[8], 8))+laidTail(0))
	mustBeNone(t, before(7)+string(laidCell(l[7], 0))+laidTail(0, len(before(7))))
}

func TestNumbersThatAreLaidTooLong(t *testing.T) { // P10.2
	// Each of the parts of two cells, as numbers and what stands between them.
	parts := []string{"00", "02", "6162", "01", "78", "02", "00", "01", "76", "02", "01", "63", "01", "78", "01", "01", "00"}
	numbers := []int{0, 1, 3, 5, 7, 9, 10, 12, 14, 16}
	tailOf := laidTail(0)
	if s := made(t, list("ab x 2 v, abc x 1 gone")); s != unhex(strings.Join(parts, ""))+tailOf {
		t.Fatalf("%x", s)
	}
	for _, at := range numbers {
		b := parts[at]
		for _, longer := range []string{"8" + b[1:] + "00", "8" + b[1:] + "8000", "8" + b[1:] + "808080808080808000", "8" + b[1:] + "80808080808080808000", "8" + b[1:]} {
			other := slices.Clone(parts)
			other[at] = longer
			mustBeNone(t, unhex(strings.Join(other, ""))+tailOf)
		}
	}
	// The byte that says whether it is gone is no number, and no other byte.
	for b := range 256 {
		for _, at := range []int{6, 15} {
			other := slices.Clone(parts)
			other[at] = fmt.Sprintf("%02x", b)
			if b > 1 {
				mustBeNone(t, unhex(strings.Join(other, ""))+tailOf)
			}
			mustRead(t, unhex(strings.Join(other, ""))+tailOf)
			other[at] += "00"
			mustRead(t, unhex(strings.Join(other, ""))+tailOf)
		}
	}
	// Texts that are told to be longer than there are bytes.
	for _, at := range []int{1, 3, 7, 10, 12, 16} {
		for _, n := range []uint64{100, 1 << 15, 1 << 16, 1 << 31, 1 << 32, 1 << 63, math.MaxUint64} {
			other := slices.Clone(parts)
			other[at] = hex.EncodeToString(binary.AppendUvarint(nil, n))
			mustBeNone(t, unhex(strings.Join(other, ""))+tailOf)
		}
	}
}

func TestPlacesOfWholeOnesThatAreLies(t *testing.T) { // P10.2
	for _, n := range []int{0, 1, 7, 8, 9, 16, 17, 40} {
		l := versions(n)
		s := made(t, l)
		wholes := (n + 7) / 8
		body, rest := s[:len(s)-2-2*wholes], s[len(s)-2-2*wholes:]
		var places []int
		for i := range wholes {
			places = append(places, 256*int(rest[2*i])+int(rest[2*i+1]))
		}
		for i := range places {
			for _, other := range []int{places[i] + 1, places[i] - 1, places[i] ^ 0x100, places[i] ^ 0x8000, len(body), 0xffff} {
				lie := slices.Clone(places)
				lie[i] = other
				mustBeNone(t, body+laidTail(lie...))
			}
			for j := range i {
				lie := slices.Clone(places)
				lie[i], lie[j] = lie[j], lie[i]
				mustBeNone(t, body+laidTail(lie...))
			}
			mustBeNone(t, body+laidTail(slices.Delete(slices.Clone(places), i, i+1)...))
			mustBeNone(t, body+laidTail(slices.Insert(slices.Clone(places), i, places[i])...))
		}
		mustBeNone(t, body+laidTail(append(slices.Clone(places), len(body))...))
		mustBeNone(t, body+laidTail(append(slices.Clone(places), 0)...))
		for told := range 300 {
			if told != wholes {
				mustBeNone(t, s[:len(s)-2]+string([]byte{byte(told >> 8), byte(told)}))
			}
		}
	}
}

func TestFindTellsWhatReadHas(t *testing.T) { // P10.3, P10.4
	for _, l := range kinds() {
		findAll(t, l)
	}
	for n := range 70 {
		findAll(t, alike(n))
		findAll(t, versions(n))
	}
}

func TestTheNewestOfAPlaceIsFound(t *testing.T) { // P10.3
	// A place whose versions go over several whole ones, each distance from one.
	for n := range 20 {
		for _, many := range []int{1, 7, 8, 9, 16, 17, 30} {
			l := apart(n)
			for v := many; v > 0; v-- {
				l = append(l, api.Cell{Row: "z", Col: "x", Version: uint64(v), Gone: (n+v)%2 == 0})
			}
			newest := l[n]
			l = append(l, api.Cell{Row: "z", Col: "y", Version: 99}, api.Cell{Row: "zz", Col: "x", Version: 99})
			s := made(t, l)
			if c, is, e := Find(s, "z", "x"); c != newest || !is || e != api.OK {
				t.Errorf("%d cells ahead, %d versions: %v, %t, %d", n, many, c, is, e)
			}
			for _, place := range [][2]string{{"z", ""}, {"z", "w"}, {"z", "xx"}, {"y\xff", "x"}, {"z\x00", "x"}, {"", ""}, {"", "x"}, {"zzz", ""}} {
				if c, is, e := Find(s, place[0], place[1]); c != (api.Cell{}) || is || e != api.OK {
					t.Errorf("%d cells ahead, %d versions: %q has %v, %t, %d", n, many, place, c, is, e)
				}
			}
		}
	}
}

func TestFindOnEachSideOfAWholeOne(t *testing.T) { // P10.3
	for n := 1; n <= 60; n++ {
		var l []api.Cell
		for i := range n {
			l = append(l, api.Cell{Row: string([]byte{'r', byte(2*i + 1)}), Col: "m", Version: uint64(i + 1), Gone: i%3 == 0})
		}
		s := made(t, l)
		for i, want := range l {
			if c, is, e := Find(s, want.Row, "m"); c != want || !is || e != api.OK {
				t.Errorf("%d of %d: %v, %t, %d", i, n, c, is, e)
			}
			for _, col := range []string{"", "l", "n", "mm"} {
				if c, is, e := Find(s, want.Row, col); c != (api.Cell{}) || is || e != api.OK {
					t.Errorf("%d of %d, %q: %v, %t, %d", i, n, col, c, is, e)
				}
			}
		}
		for i := range n + 1 { // ahead of all, between each two, behind all
			if c, is, e := Find(s, string([]byte{'r', byte(2 * i)}), "m"); c != (api.Cell{}) || is || e != api.OK {
				t.Errorf("ahead of %d of %d: %v, %t, %d", i, n, c, is, e)
			}
		}
	}
}

func TestTheWholeOneIsLookedForByHalves(t *testing.T) { // P10.3, the chapter's Ways
	for n := range 400 {
		var l []api.Cell
		for i := range n {
			l = append(l, api.Cell{Row: fmt.Sprintf("%04d", 2*i), Col: "x", Version: 1})
		}
		for i := range n + 1 {
			// Between the cells i - 1 and i: so many whole ones are ahead.
			sought := api.Cell{Row: fmt.Sprintf("%04d", max(2*i-1, 0)), Col: "x", Version: 1}
			want := max((i+7)/8-1, 0)
			if got := lastWhole(l, sought); got != want {
				t.Fatalf("of %d cells, ahead of %d: the whole one %d, not %d", n, i, got, want)
			}
		}
	}
}

func TestFindOfPlacesThatNoCellHas(t *testing.T) { // P10.3, R1
	for _, l := range [][]api.Cell{nil, list("- x 1"), list("a x 1"), alike(20)} {
		s := made(t, l)
		for _, row := range []string{"", long(33), long(1 << 16), "\xff", strings.Repeat("\x00", 33)} {
			for _, col := range []string{"", long(17), long(1 << 16), "\xff"} {
				if c, is, e := Find(s, row, col); c != (api.Cell{}) || is || e != api.OK {
					t.Errorf("Find(%.20q, %.20q) = %v, %t, %d", row, col, c, is, e)
				}
			}
		}
	}
}

// anyCells are cells in order that chance tells, of rows that often begin alike.
func anyCells(chance *rand.Rand, most int) []api.Cell {
	var l []api.Cell
	for range chance.Intn(most + 1) {
		c := api.Cell{Version: 1 + uint64(chance.Int63n(1<<chance.Intn(41)))}
		row := make([]byte, chance.Intn(6))
		for i := range row {
			row[i] = "\x00ab\xff"[chance.Intn(4)]
		}
		c.Row = long(26*chance.Intn(2)) + string(row)
		c.Col = []string{"", "x", "y", "\x00", "\xff", long(16)}[chance.Intn(6)]
		if c.Gone = chance.Intn(3) == 0; !c.Gone {
			c.Value = strings.Repeat("v", chance.Intn(4)*chance.Intn(70))
		}
		if mayBe(c) {
			l = append(l, c)
		}
	}
	slices.SortStableFunc(l, func(a, b api.Cell) int {
		if isAhead(a, b) {
			return -1
		}
		if isAhead(b, a) {
			return 1
		}
		return 0
	})
	return slices.CompactFunc(l, func(a, b api.Cell) bool { return !isAhead(a, b) })
}

func TestAnyCellsComeBack(t *testing.T) { // P10.1 to P10.4
	chance := rand.New(rand.NewSource(10))
	for range 3000 {
		l := anyCells(chance, 40)
		s := made(t, l)
		for range 5 {
			mustFind(t, s, string([]byte{"\x00ab\xff"[chance.Intn(4)]}), "x")
			if len(l) > 0 {
				c := l[chance.Intn(len(l))]
				mustFind(t, s, c.Row, c.Col)
				mustFind(t, s, c.Row, "xx")
			}
		}
		// Some bytes changed, taken out or put in.
		for range 10 {
			b := []byte(s)
			for range 1 + chance.Intn(3) {
				at := chance.Intn(len(b))
				switch chance.Intn(4) {
				case 0:
					b = slices.Delete(b, at, at+1)
				case 1:
					b = slices.Insert(b, at, byte(chance.Intn(4)))
				case 2:
					b[at] = byte(chance.Intn(256))
				case 3:
					b[at]++
				}
				if len(b) == 0 {
					break
				}
			}
			mustRead(t, string(b))
		}
		// Cells in another order.
		if len(l) > 1 {
			i := chance.Intn(len(l) - 1)
			l[i], l[i+1] = l[i+1], l[i]
			mustRefuse(t, l, api.ErrArg)
			mustBeNone(t, laid(l))
		}
	}
}

func TestManyCells(t *testing.T) { // P10.1 to P10.4
	chance := rand.New(rand.NewSource(104))
	for range 60 {
		l := anyCells(chance, 3000)
		if s := mustBuild(t, l); s != "" {
			for range 10 {
				c := l[chance.Intn(len(l))]
				mustFind(t, s, c.Row, c.Col)
				mustFind(t, s, c.Row, c.Col+"\x00")
			}
		}
	}
}

func TestNoCells(t *testing.T) { // P10.1, P10.2, R4
	room := apart(9)
	for _, l := range [][]api.Cell{nil, {}, room[:0], room[9:]} {
		if s, e := Build(l); s != "\x00\x00" || e != api.OK {
			t.Errorf("of no cells: %x, %d", s, e)
		}
	}
	if l, e := Read("\x00\x00"); len(l) != 0 || e != api.OK {
		t.Errorf("%v, %d", l, e)
	}
	if c, is, e := Find("\x00\x00", "a", "x"); c != (api.Cell{}) || is || e != api.OK {
		t.Errorf("%v, %t, %d", c, is, e)
	}
}

func TestWhatIsHandedInIsNotChanged(t *testing.T) { // R5
	whole := alike(60)
	was := slices.Clone(whole)
	for _, l := range [][]api.Cell{whole, whole[5:20], whole[:0], whole[3:3], whole[:8], whole[:9:9]} {
		Build(l)
		if !slices.Equal(whole, was) {
			t.Fatal("the cells, or those behind them, were changed")
		}
	}
	slices.Reverse(whole)
	slices.Reverse(was)
	Build(whole)
	if !slices.Equal(whole, was) {
		t.Fatal("cells that were refused were changed")
	}
}

// over is a text over the bytes themselves, which go on being changed.
func over(b []byte) string { return unsafe.String(unsafe.SliceData(b), len(b)) }

func TestWhatIsHandedInIsNotKept(t *testing.T) { // R5
	row, col, value := []byte("row"), []byte("col"), []byte("value")
	l := []api.Cell{{Row: over(row), Col: over(col), Version: 2, Value: over(value)}, {Row: over(row), Col: over(col), Version: 1, Gone: true}}
	s, e := Build(l)
	was := strings.Clone(s)
	row[0], col[0], value[0], l[1].Version = 'x', 'x', 'x', 7
	if s != was || e != api.OK || was != laid(list("row col 2 value, row col 1 gone")) {
		t.Errorf("%x, %d: a block changes with the cells of which it was made", s, e)
	}

	raw, r, c := []byte(was), []byte("row"), []byte("col")
	got, e := Read(over(raw))
	found, is, e2 := Find(over(raw), over(r), over(c))
	clear(raw)
	clear(r)
	clear(c)
	want := list("row col 2 value, row col 1 gone")
	if !slices.Equal(got, want) || e != api.OK || found != want[0] || !is || e2 != api.OK {
		t.Errorf("%v, %v: cells change with the bytes that were read", got, found)
	}
}

func TestAnswersAreNewMemory(t *testing.T) { // R5
	s := made(t, slices.Concat(list("a x 2 v, a x 1 v"), versions(20), list("s x 2 v, sa x 1 v")))
	seen := map[*byte]string{}
	look := func(texts ...string) {
		t.Helper()
		for _, text := range texts {
			if text == "" {
				continue
			}
			at := unsafe.StringData(text)
			if other, is := seen[at]; is {
				t.Errorf("%q shares its memory with %q", text, short(other))
			}
			seen[at] = text
		}
	}
	look(s)
	for i := range s {
		seen[unsafe.StringData(s[i:])] = s
	}
	for range 2 {
		l, _ := Read(s)
		for _, c := range l {
			look(c.Row, c.Col, c.Value)
		}
		again, _ := Build(l)
		look(again)
		c, _, _ := Find(s, "s", "x")
		look(c.Row, c.Col, c.Value)
	}
	one, _ := Read(s)
	other, _ := Read(s)
	one[0].Version = 7
	if other[0].Version == 7 {
		t.Error("two answers share their cells")
	}
}

func TestTheSameAsksAreAnsweredTheSame(t *testing.T) { // R6
	for _, l := range kinds() {
		first := made(t, l)
		// Nothing that was asked in between, nor the room behind, may tell.
		Build(apart(3))
		Read("\x00\x01")
		Find(first, "between", "x")
		roomy := append(make([]api.Cell, 0, 200), l...)
		for _, again := range [][]api.Cell{l, roomy, slices.Clip(roomy)} {
			if made(t, again) != first {
				t.Fatal("asked again another block")
			}
		}
		one, _ := Read(first)
		other, _ := Read(first + "x"[:0])
		if !slices.Equal(one, other) {
			t.Fatal("read again other cells")
		}
	}
}

func FuzzBlocksAreAsTheWordsSay(f *testing.F) { // P10.1 to P10.4, R1, R2
	for _, l := range kinds() {
		f.Add(laid(l), "row", "x")
	}
	f.Add("", "", "")
	f.Add("\x00\x01", "a", "")
	f.Fuzz(func(t *testing.T, s, row, col string) {
		l := mustRead(t, s)
		mustFind(t, s, row, col)
		if _, e := Read(s); e == api.OK {
			if again, e := Build(l); again != s || e != api.OK {
				t.Fatalf("Build of Read(%s) = %s, %d", short(s), short(again), e)
			}
			for _, c := range l {
				mustFind(t, s, c.Row, c.Col)
			}
		}
		// The bytes as cells, in order or not.
		var cells []api.Cell
		for i := 0; i+4 <= len(s); i += 4 {
			cells = append(cells, api.Cell{Row: row + s[i:i+1], Col: s[i+1 : i+2], Version: uint64(s[i+2]), Value: s[i+3 : i+4]})
		}
		mustBuild(t, cells)
	})
}
