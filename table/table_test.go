package table

import (
	"crypto/sha256"
	"encoding/binary"
	"encoding/hex"
	"fmt"
	"hash/crc32"
	"iter"
	"math"
	"math/rand"
	"slices"
	"strconv"
	"strings"
	"testing"
	"unsafe"

	"acreage/api"
)

// ahead says whether a is ahead of b, byte by byte, a beginning ahead of the whole.
func ahead(a, b string) bool {
	for i := range min(len(a), len(b)) {
		if a[i] != b[i] {
			return a[i] < b[i]
		}
	}
	return len(a) < len(b)
}

// isAhead is the order of cells as DOC.md words it.
func isAhead(a, b api.Cell) bool {
	if a.Row != b.Row {
		return ahead(a.Row, b.Row)
	}
	if a.Col != b.Col {
		return ahead(a.Col, b.Col)
	}
	return a.Version > b.Version
}

// mayBe says whether a cell may be, as DOC.md words it.
func mayBe(c api.Cell) bool {
	return len(c.Row) <= 32 && len(c.Col) <= 16 && (c.Col != "" || c.Row != "") &&
		c.Version >= 1 && c.Version <= 1<<40 &&
		len(c.Value) <= 1<<16 && (!c.Gone || c.Value == "")
}

func areATables(l []api.Cell) bool {
	for i, c := range l {
		if !mayBe(c) || i > 0 && !isAhead(l[i-1], c) {
			return false
		}
	}
	return true
}

func laidText(b []byte, s string) []byte {
	return append(binary.AppendUvarint(b, uint64(len(s))), s...)
}

// laidBlock are the bytes of a block as chapter 10 words them, of any cells.
func laidBlock(l []api.Cell) string {
	var b, places []byte
	for i, c := range l {
		shared := 0
		if i%8 == 0 {
			places = binary.BigEndian.AppendUint16(places, uint16(len(b)))
		} else {
			before := l[i-1].Row
			for shared < min(len(c.Row), len(before)) && c.Row[shared] == before[shared] {
				shared++
			}
		}
		b = laidText(binary.AppendUvarint(b, uint64(shared)), c.Row[shared:])
		b = binary.AppendUvarint(laidText(b, c.Col), c.Version)
		if c.Gone {
			b = append(b, 1)
		} else {
			b = append(b, 0)
		}
		b = laidText(b, c.Value)
	}
	b = append(b, places...)
	return string(binary.BigEndian.AppendUint16(b, uint16(len(places)/2)))
}

// laidFrame is a frame as chapter 2 words it, of however many bytes.
func laidFrame(body string) string {
	b := binary.BigEndian.AppendUint32(nil, uint32(len(body)))
	sum := crc32.ChecksumIEEE([]byte(string(b) + body))
	return string(binary.LittleEndian.AppendUint32(b, sum)) + body
}

// laidFilter is a filter as chapter 9 words it, of however many keys.
func laidFilter(keys []string, bits int) string {
	f := make([]byte, max((bits*len(keys)+7)/8, 8))
	k := min(max(bits*69/100, 1), 8)
	for _, key := range keys {
		first, second := uint64(14695981039346656037), uint64(9521554427338878180)
		for i := range len(key) {
			first = (first ^ uint64(key[i])) * 1099511628211
			second = (second ^ uint64(key[i])) * 1099511628211
		}
		for i := range k {
			bit := (first + uint64(i)*second) % uint64(8*len(f))
			f[bit/8] |= 1 << (bit % 8)
		}
	}
	return string(append([]byte{byte(k)}, f...))
}

// indexed is what an index tells of a block.
type indexed struct {
	row, col        string
	at, size, cells uint64
}

// draft is a table, or what looks like one: each part may be made a lie, and
// the frames around them are right.
type draft struct {
	bodies        []string
	count         uint64
	rows          []indexed
	filter        string
	index, behind uint64 // what the footer says
}

// drawn is the table of these blocks as the chapter words it, within no limits.
func drawn(blocks ...[]api.Cell) draft {
	d := draft{count: uint64(len(blocks))}
	var keys []string
	var last api.Cell
	for _, l := range blocks {
		for _, c := range l {
			if len(keys) == 0 || c.Row != last.Row || c.Col != last.Col {
				keys = append(keys, c.Row+"\x00"+c.Col)
			}
			last = c
		}
		body := laidBlock(l)
		d.bodies = append(d.bodies, body)
		d.rows = append(d.rows, indexed{last.Row, last.Col, d.index, uint64(8 + len(body)), uint64(len(l))})
		d.index += uint64(8 + len(body))
	}
	d.filter = laidFilter(keys, 10)
	d.behind = d.index + 8 + uint64(len(d.indexBody()))
	return d
}

func (d draft) indexBody() string {
	b := binary.AppendUvarint(nil, d.count)
	for _, x := range d.rows {
		b = laidText(laidText(b, x.row), x.col)
		for _, n := range []uint64{x.at, x.size, x.cells} {
			b = binary.AppendUvarint(b, n)
		}
	}
	return string(b)
}

func (d draft) footer() string {
	return string(binary.BigEndian.AppendUint64(binary.BigEndian.AppendUint64(nil, d.index), d.behind))
}

func (d draft) bytes() string {
	var b strings.Builder
	for _, body := range d.bodies {
		b.WriteString(laidFrame(body))
	}
	return b.String() + laidFrame(d.indexBody()) + laidFrame(d.filter) + d.footer()
}

// copied lets a part be made a lie, and leaves the draft as it is.
func (d draft) copied() draft {
	d.bodies, d.rows = slices.Clone(d.bodies), slices.Clone(d.rows)
	return d
}

func laidTable(blocks ...[]api.Cell) string { return drawn(blocks...).bytes() }

// howManyPlaces counts the places of cells in order.
func howManyPlaces(l []api.Cell) int {
	n := 0
	for i, c := range l {
		if i == 0 || c.Row != l[i-1].Row || c.Col != l[i-1].Col {
			n++
		}
	}
	return n
}

// parted are the blocks that P11.1 words.
func parted(l []api.Cell, most int) [][]api.Cell {
	var blocks [][]api.Cell
	begin := 0
	for i := range l {
		if i > begin && (len(laidBlock(l[begin:i])) >= most || len(laidBlock(l[begin:i+1])) > 32768) {
			blocks = append(blocks, l[begin:i])
			begin = i
		}
	}
	if begin < len(l) {
		blocks = append(blocks, l[begin:])
	}
	return blocks
}

// slowWrite is Write as P11.1 words it.
func slowWrite(l []api.Cell, most int) (string, api.Errno) {
	if most < 1 || most > 32768 || !areATables(l) {
		return "", api.ErrArg
	}
	for i := range l {
		if len(laidBlock(l[i:i+1])) > 32768 {
			return "", api.ErrLong
		}
	}
	if howManyPlaces(l) > 32768 {
		return "", api.ErrLong
	}
	d := drawn(parted(l, most)...)
	if len(d.indexBody()) > 1<<20 {
		return "", api.ErrLong
	}
	return d.bytes(), api.OK
}

// taker takes numbers and texts off bytes; lost says that one was not there.
type taker struct {
	b    []byte
	lost bool
}

func (x *taker) number() uint64 {
	v, n := binary.Uvarint(x.b)
	if n <= 0 {
		x.b, x.lost = nil, true
		return 0
	}
	x.b = x.b[n:]
	return v
}

func (x *taker) text() string {
	n := x.number()
	if n > uint64(len(x.b)) {
		x.b, x.lost = nil, true
		return ""
	}
	t := string(x.b[:n])
	x.b = x.b[n:]
	return t
}

// slowBlock are cells that could be a block's with these bytes, if any are.
func slowBlock(s string) (l []api.Cell, is bool) {
	if len(s) < 2 {
		return nil, false
	}
	end := len(s) - 2 - 2*(256*int(s[len(s)-2])+int(s[len(s)-1]))
	if end < 0 {
		return nil, false
	}
	x := &taker{b: []byte(s[:end])}
	before := ""
	for len(x.b) > 0 {
		shared := x.number()
		if shared > uint64(len(before)) {
			return nil, false
		}
		c := api.Cell{Row: before[:shared] + x.text(), Col: x.text(), Version: x.number(), Gone: x.number() == 1, Value: x.text()}
		l, before = append(l, c), c.Row
	}
	return l, !x.lost
}

// slowOpen is Open as P11.2 words it: what could be read by the index, if
// there is one, is laid anew, and held against s.
func slowOpen(s string) (blocks [][]api.Cell, e api.Errno) {
	n := len(s) - 16
	if n < 0 {
		return nil, api.ErrForm
	}
	at := binary.BigEndian.Uint64([]byte(s[n:]))
	if at > uint64(n) || uint64(n)-at < 8 {
		return nil, api.ErrForm
	}
	size := uint64(binary.BigEndian.Uint32([]byte(s[at:])))
	if size > uint64(n)-at-8 || size > 1<<20 {
		return nil, api.ErrForm
	}
	x := &taker{b: []byte(s[at+8 : at+8+size])}
	var all []api.Cell
	for range x.number() {
		x.text()
		x.text()
		from, long := x.number(), x.number()
		x.number()
		if x.lost || long < 8 || long > 8+32768 || from > uint64(n) || long > uint64(n)-from {
			return nil, api.ErrForm
		}
		l, is := slowBlock(s[from+8 : from+long])
		if !is || len(l) == 0 {
			return nil, api.ErrForm
		}
		blocks, all = append(blocks, l), append(all, l...)
	}
	if !areATables(all) || howManyPlaces(all) > 32768 || laidTable(blocks...) != s {
		return nil, api.ErrForm
	}
	return blocks, api.OK
}

// list reads cells that are written as the chapter writes them, parted by
// commas: row, column, version, and gone or a value; - is an empty text.
func list(s string) (l []api.Cell) {
	for part := range strings.SplitSeq(s, ",") {
		words := strings.Fields(part)
		if len(words) == 0 {
			continue
		}
		for i, w := range words {
			words[i] = strings.ReplaceAll(w, "-", "")
		}
		version, err := strconv.ParseUint(words[2], 10, 64)
		if err != nil {
			panic(err)
		}
		c := api.Cell{Row: words[0], Col: words[1], Version: version}
		for _, w := range words[3:] {
			if w == "gone" {
				c.Gone = true
			} else {
				c.Value = w
			}
		}
		l = append(l, c)
	}
	return l
}

// one is the only cell that is written so.
func one(s string) api.Cell { return list(s)[0] }

func unhex(digits string) string {
	b, err := hex.DecodeString(strings.ReplaceAll(digits, " ", ""))
	if err != nil {
		panic(err)
	}
	return string(b)
}

func long(n int) string { return strings.Repeat("x", n) }

// short tells bytes, or how many of them there are.
func short(s string) string {
	if len(s) > 60 {
		return fmt.Sprintf("%x.. (%d bytes)", s[:60], len(s))
	}
	return fmt.Sprintf("%x", s)
}

// told tells cells, or the first of them.
func told(l []api.Cell) string {
	s := ""
	for i, c := range l {
		if i == 20 {
			return s + fmt.Sprintf("and so on (%d cells)", len(l))
		}
		s += fmt.Sprintf("%.40q %.20q %d %t %.20q, ", c.Row, c.Col, c.Version, c.Gone, c.Value)
	}
	return s
}

func tells(t *testing.T, seq iter.Seq[api.Cell], want []api.Cell) {
	t.Helper()
	if got := slices.Collect(seq); !slices.Equal(got, want) {
		t.Fatalf("told %s, not %s", told(got), told(want))
	}
}

// mustWrite holds Write against the words, and tells the bytes.
func mustWrite(t *testing.T, l []api.Cell, most int) string {
	t.Helper()
	want, wantE := slowWrite(l, most)
	s, e := Write(l, most)
	if s != want || e != wantE {
		t.Fatalf("Write(%s; %d) = %s, %d, not %s, %d", told(l), most, short(s), e, short(want), wantE)
	}
	return s
}

// made is the table of cells that must be one's.
func made(t *testing.T, l []api.Cell, most int) *Table {
	t.Helper()
	s := mustWrite(t, l, most)
	if s == "" {
		t.Fatalf("%d cells are no table's", len(l))
	}
	return mustOpen(t, s)
}

// mustRefuse holds Write to an error.
func mustRefuse(t *testing.T, l []api.Cell, most int, want api.Errno) {
	t.Helper()
	if s, e := Write(l, most); s != "" || e != want {
		t.Errorf("Write(%s; %d) = %s, %d, not %d", told(l), most, short(s), e, want)
	}
}

// mustBeNone holds Open to ErrForm.
func mustBeNone(t *testing.T, s string) {
	t.Helper()
	if x, e := Open(s); x != nil || e != api.ErrForm {
		t.Errorf("Open(%s) = %v, %d", short(s), x, e)
	}
}

// mustOpen holds Open against the words, of any bytes, and tells the table.
func mustOpen(t *testing.T, s string) *Table {
	t.Helper()
	blocks, wantE := slowOpen(s)
	x, e := Open(s)
	if e != wantE || (x == nil) != (e != api.OK) {
		t.Fatalf("Open(%s) = %v, %d, not %d", short(s), x, e, wantE)
	}
	all := slices.Concat(blocks...)
	if x.Len() != len(all) || x.Blocks() != len(blocks) {
		t.Fatalf("Open(%s) has %d cells in %d blocks, not %d in %d", short(s), x.Len(), x.Blocks(), len(all), len(blocks))
	}
	tells(t, x.All(), all)
	return x
}

// look holds Get and From against the words at one place.
func look(t *testing.T, x *Table, l []api.Cell, row, col string) {
	t.Helper()
	var from []api.Cell
	var newest api.Cell
	for _, c := range l {
		if ahead(row, c.Row) || row == c.Row && !ahead(c.Col, col) {
			from = append(from, c)
		}
		if c.Row == row && c.Col == col && c.Version > newest.Version {
			newest = c
		}
	}
	if c, is := x.Get(row, col); c != newest || is != (newest.Version > 0) {
		t.Fatalf("Get(%q, %q) of %s= %v, %t", row, col, told(l), c, is)
	}
	tells(t, x.From(row, col), from)
	// P11.5: the two tell the same.
	for c := range x.From(row, col) {
		got, is := x.Get(row, col)
		if is != (c.Row == row && c.Col == col) || is && got != c {
			t.Fatalf("Get(%q, %q) = %v, %t, and From begins with %v", row, col, got, is, c)
		}
		break
	}
}

// lookAll looks at each place of the cells, and at those close to it.
func lookAll(t *testing.T, x *Table, l []api.Cell) {
	t.Helper()
	for _, c := range l {
		for _, row := range []string{c.Row, c.Row + "\x00", c.Row + "\xff", c.Row[:max(len(c.Row)-1, 0)]} {
			for _, col := range []string{"", c.Col, c.Col + "\x00", c.Col[:max(len(c.Col)-1, 0)]} {
				look(t, x, l, row, col)
			}
		}
	}
	look(t, x, l, "", "")
	look(t, x, l, "", "\x00")
	look(t, x, l, strings.Repeat("\xff", 40), strings.Repeat("\xff", 40))
}

// versions are n cells of one place, every other one gone.
func versions(n int) (l []api.Cell) {
	for v := n; v > 0; v-- {
		l = append(l, api.Cell{Row: "row", Col: "x", Version: uint64(v), Gone: v%2 == 0})
	}
	return l
}

// growing are n rows, each the beginning of the next one.
func growing(n int) (l []api.Cell) {
	for i := range n {
		l = append(l, api.Cell{Row: strings.Repeat("a", i+1), Version: uint64(i + 1)})
	}
	return l
}

// alike are n rows that begin alike, with two columns and two versions each.
func alike(n int) (l []api.Cell) {
	for i := range n {
		c := api.Cell{Row: fmt.Sprintf("row%04d", i/4), Col: "xy"[i/2%2 : i/2%2+1], Version: uint64(2 - i%2), Gone: i%3 == 0}
		if !c.Gone {
			c.Value = strings.Repeat("v", i%5)
		}
		l = append(l, c)
	}
	return l
}

// many are n places of short rows, a cell each.
func many(n int) (l []api.Cell) {
	for i := range n {
		l = append(l, api.Cell{Row: string([]byte{byte(i >> 16), byte(i >> 8), byte(i)}), Col: "c", Version: 1})
	}
	return l
}

// kinds are lists at the edges of what a table may have.
func kinds() map[string][]api.Cell {
	all := map[string][]api.Cell{
		"none":     nil,
		"one":      list("a x 1 v"),
		"gone":     list("a x 1 gone"),
		"the own":  list("- e 1099511627776 v, - ee 1, a - 1"),
		"greatest": {{Row: strings.Repeat("r", 32), Col: strings.Repeat("c", 16), Version: 1 << 40, Value: long(256)}},
		"strange": {
			{Row: "\x00", Col: "\x00", Version: 128, Value: "\x00"},
			{Row: "\x00\xff", Col: "\xff", Version: 127, Gone: true},
			{Row: "\x80", Col: "x", Version: 1, Value: "\xff\x00\x80"},
			{Row: "\xff\x00", Col: "\xff", Version: 300, Value: "\xff\x00"},
			{Row: "\xff\xff", Version: 1},
		},
		"one key": {
			{Row: "a", Col: "b\x00c", Version: 2},
			{Row: "a", Col: "b\x00d", Version: 2},
			{Row: "a\x00b", Col: "c", Version: 3, Value: "v"},
			{Row: "a\x00b\x00c", Version: 3, Value: "v"},
		},
		"places": list("a - 3, a x 2 gone, a x 1 v, a xx 9, a y 1, aa - 1, ab x 2 v, ab x 1 gone"),
	}
	for _, n := range []int{2, 8, 9, 17, 25} {
		all[fmt.Sprint(n, " versions")] = versions(n)
		all[fmt.Sprint(n, " growing")] = growing(n)
		all[fmt.Sprint(n, " alike")] = alike(n)
		all[fmt.Sprint(n, " many")] = many(n)
	}
	return all
}

// mosts are numbers that blocks are to have bytes of.
func mosts() []int { return []int{1, 2, 13, 25, 40, 100, 1024, 1<<15 - 1, 1 << 15} }

func TestTheChaptersExamples(t *testing.T) { // P11.1 to P11.3, P11.5
	none := laidFrame("\x00") + laidFrame("\x06"+strings.Repeat("\x00", 8)) + unhex("0000000000000000 0000000000000009")
	if s, e := Write(nil, 1); s != none || e != api.OK {
		t.Errorf("Write(none, 1) = %x, %d", s, e)
	}
	l := list("a x 2, a x 1, b x 1")
	s, e := Write(l, 1)
	if e != api.OK {
		t.Fatal(e)
	}
	x, e := Open(s)
	if e != api.OK || x.Blocks() != 3 || x.Len() != 3 {
		t.Fatalf("%d blocks, %d cells, %d", x.Blocks(), x.Len(), e)
	}
	if c, is := x.Get("a", "x"); c != l[0] || !is {
		t.Errorf("Get(a, x) = %v, %t", c, is)
	}
	if c, is := x.Get("a", "y"); c != (api.Cell{}) || is {
		t.Errorf("Get(a, y) = %v, %t", c, is)
	}
	tells(t, x.From("a", "x"), l)
	tells(t, x.From("a", "y"), l[2:])
	tells(t, x.From("b", ""), l[2:])
	tells(t, x.All(), l)
	mustRefuse(t, list("b x 1, a x 1"), 1, api.ErrArg)
	mustRefuse(t, list("a x 1"), 0, api.ErrArg)
	mustRefuse(t, list("a x 1"), 1<<15+1, api.ErrArg)
	mustRefuse(t, []api.Cell{{Row: "a", Col: "x", Version: 1, Value: long(1 << 16)}}, 1, api.ErrLong)
	mustBeNone(t, "")
	mustBeNone(t, s+"\x00")
	mustBeNone(t, s[1:])
}

func TestTablesWorkedOutElsewhere(t *testing.T) { // P11.1, P11.2
	three := list("a x 2, a x 1, b x 1")
	strange := []api.Cell{
		{Col: "e", Version: 1 << 40, Value: "\x00\xff"},
		{Row: "a", Version: 300, Gone: true},
		{Row: "a\x00b", Col: "c\xff", Version: 128},
	}
	for _, c := range []struct {
		l    []api.Cell
		most int
		want string
	}{
		{nil, 1, "000000015cc639df0000000009c2147b8006000000000000000000000000000000000000000000000009"},
		{three, 1, "0000000cf9fdfc010001610178020000000000010000000c64e714300001610178010000000000010000000c675c23db00016201780100000000000100000016d46719b00301610178001401016101781414010162017828140100000009979a8412062280118208208400000000000000003c000000000000005a"},
		{three, 13, "0000001394d13dd8000161017802000001000178010000000000010000000c675c23db0001620178010000000000010000000f157680380201610178001b02016201781b140100000009979a8412062280118208208400000000000000002f0000000000000046"},
		{three, 1 << 15, "0000001b1a1fcb75000161017802000001000178010000000162017801000000000001000000081446a75b010162017800230300000009979a841206228011820820840000000000000000230000000000000033"},
		{list("a x 1 v"), 1, "0000000d407830d60001610178010001760000000100000008e3c421ba010161017800150100000009f89fea1a06020011800800040000000000000000150000000000000025"},
		{strange, 20, "0000001a2b535cec00000165808080808020000200ff00016100ac02010000000001000000104040fa7500036100620263ff80010000000000010000001187af8e9202016100002202036100620263ff22180100000009784098aa062448102330800346000000000000003a0000000000000053"},
	} {
		if s, e := Write(c.l, c.most); s != unhex(c.want) || e != api.OK {
			t.Errorf("Write(%s; %d) = %x, %d, not %s", told(c.l), c.most, s, e, c.want)
		}
		x, e := Open(unhex(c.want))
		if e != api.OK {
			t.Fatalf("Open(%s): %d", c.want, e)
		}
		tells(t, x.All(), c.l)
	}
	var l []api.Cell
	for i := range 300 {
		c := api.Cell{Row: fmt.Sprint("k", 1000+i/2), Col: "xy"[i%2 : i%2+1], Version: uint64(i + 1), Gone: i%3 == 0}
		if !c.Gone {
			c.Value = strings.Repeat("v", i%200)
		}
		l = append(l, c)
	}
	for _, c := range []struct {
		most, bytes, blocks int
		sum                 string
	}{
		{1, 28200, 300, "10f3da91edb62b0fb846a3813da910ffc61bad8248a386ba5a50d7a4f6b5aa75"},
		{100, 23564, 138, "182b42dff25fbe836f6a0e21e50f0164c54b6a98f440c8fecf4a3f9d620add17"},
		{1024, 20218, 18, "73620c4e92d2029fab41b15b9181ae8f700a08ab29f593d359108302779c83ee"},
		{1 << 15, 19739, 1, "bf1272db88341a07564258a78ae1e3ae381df4407898f99249ba81447ac8fa82"},
	} {
		s := mustWrite(t, l, c.most)
		if sum := fmt.Sprintf("%x", sha256.Sum256([]byte(s))); len(s) != c.bytes || sum != c.sum {
			t.Errorf("of 300 cells with %d: %d bytes, %s", c.most, len(s), sum)
		}
		if x := mustOpen(t, s); x.Blocks() != c.blocks || x.Len() != 300 {
			t.Errorf("of 300 cells with %d: %d blocks, %d cells", c.most, x.Blocks(), x.Len())
		}
	}
}

func TestCellsArePartedAsWorded(t *testing.T) { // P11.1, P11.4
	for _, l := range kinds() {
		// Each number of bytes that a block of them could end at, and beyond.
		for most := 1; most <= len(laidBlock(l))+2; most++ {
			s := mustWrite(t, l, most)
			if x, e := Open(s); e != api.OK || !slices.Equal(slices.Collect(x.All()), l) {
				t.Fatalf("%s; %d: %d", told(l), most, e)
			}
		}
		for _, most := range mosts() {
			made(t, l, most)
		}
	}
}

func TestBlocksThatEndJustAtMost(t *testing.T) { // P11.1
	l := alike(40)
	for n := 1; n < len(l); n++ {
		size := len(laidBlock(l[:n]))
		for _, c := range []struct{ most, first int }{{size, n}, {size + 1, n + 1}} {
			x := made(t, l, c.most)
			first := 0
			for list := range read(x.bodies) {
				first = len(list)
				break
			}
			if first != c.first {
				t.Errorf("with %d the first block has %d cells, not %d", c.most, first, c.first)
			}
		}
	}
}

// grown makes the value of the last cell as long as it takes for the block of
// all to have so many bytes.
func grown(l []api.Cell, size int) []api.Cell {
	l = slices.Clone(l)
	last := &l[len(l)-1]
	last.Gone, last.Value = false, ""
	last.Value = long(size - len(laidBlock(l)) - 3)
	for len(laidBlock(l)) < size {
		last.Value += "x"
	}
	if len(laidBlock(l)) != size {
		panic("no value makes a block of that many bytes")
	}
	return l
}

func TestBlocksUpToTheirGreatestSize(t *testing.T) { // P11.1
	const most = 1 << 15
	behind := api.Cell{Row: "z", Col: "x", Version: 1}
	for _, n := range []int{1, 2, 7, 8, 9, 16, 17} { // the places of whole cells too: they take two bytes more
		for _, c := range []struct{ size, blocks int }{{most - 1, 1}, {most, 1}, {most + 1, 2}} {
			if n == 1 && c.size > most {
				continue
			}
			l := grown(alike(n), c.size)
			if x := made(t, l, most); x.Blocks() != c.blocks {
				t.Errorf("%d cells of %d bytes: %d blocks", n, c.size, x.Blocks())
			}
			// One more has no room there, whether there is as much as is asked for or not.
			if x := made(t, append(l, behind), most); c.blocks == 1 && x.Blocks() != 2 {
				t.Errorf("%d cells of %d bytes, and one: %d blocks", n, c.size, x.Blocks())
			}
			made(t, append(l, behind), most-1)
			made(t, append(l, behind), 1)
		}
	}
	// Blocks that are all full, and such that are not as long as is asked for.
	for _, size := range []int{most, most - 10, most/2 + 10} {
		var l []api.Cell
		for i := range 6 {
			l = append(l, grown([]api.Cell{{Row: strconv.Itoa(i), Col: "x", Version: 1}}, size)...)
		}
		if x := made(t, l, most); x.Blocks() != 6 {
			t.Errorf("six cells that have no room beside one another: %d blocks", x.Blocks())
		}
		if x := made(t, l, size); x.Blocks() != 6 {
			t.Errorf("six cells of %d bytes each: %d blocks", size, x.Blocks())
		}
	}
}

func TestLongBlocks(t *testing.T) { // P11.1
	l := alike(9000)
	for _, most := range []int{5000, 1 << 15} {
		if x := made(t, l, most); x.Blocks() < 2 || x.Blocks() > 9000/200 {
			t.Errorf("%d blocks with %d", x.Blocks(), most)
		}
	}
}

func TestOneCellThatFillsABlock(t *testing.T) { // P11.1
	full := grown(list("m x 5"), 1<<15)
	over := grown(list("m x 5"), 1<<15+1)
	for _, most := range mosts() {
		made(t, full, most)
		mustRefuse(t, over, most, api.ErrLong)
		a, z := list("a x 1 v, m x 6 gone"), list("m x 4 v, z x 1 gone")
		made(t, slices.Concat(a, full, z), most)
		made(t, slices.Concat(full, z), most)
		made(t, slices.Concat(a, full), most)
		mustRefuse(t, slices.Concat(a, over, z), most, api.ErrLong)
		mustRefuse(t, slices.Concat(over, z), most, api.ErrLong)
		mustRefuse(t, slices.Concat(a, over), most, api.ErrLong)
	}
	// Beside one of its row it would be as long, had it not to be laid alone.
	row := strings.Repeat("r", 32)
	for _, size := range []int{1 << 15, 1<<15 + 1, 1<<15 + 20, 1<<15 + 40} {
		l := append([]api.Cell{{Row: row, Col: "x", Version: 2}}, grown([]api.Cell{{Row: row, Col: "x", Version: 1}}, size)...)
		for _, most := range mosts() {
			mustWrite(t, l, most)
		}
	}
	for _, n := range []int{1 << 15, 1<<16 - 1, 1 << 16} {
		mustRefuse(t, []api.Cell{{Row: "a", Col: "x", Version: 1, Value: long(n)}}, 1, api.ErrLong)
	}
}

func TestArgumentsThatMayNotBe(t *testing.T) { // P11.1, R2
	for _, most := range []int{0, -1, 1<<15 + 1, 1 << 16, 1 << 40, math.MaxInt, math.MinInt} {
		mustRefuse(t, nil, most, api.ErrArg)
		mustRefuse(t, list("a x 1"), most, api.ErrArg)
	}
	bad := []api.Cell{
		{},
		{Row: "", Col: "", Version: 1},
		{Row: long(33), Col: "x", Version: 1},
		{Row: "m", Col: long(17), Version: 1},
		{Row: "m", Col: "x"},
		{Row: "m", Col: "x", Version: 1<<40 + 1},
		{Row: "m", Col: "x", Version: math.MaxUint64},
		{Row: "m", Col: "x", Version: 1, Value: long(1<<16 + 1)},
		{Row: "m", Col: "x", Version: 1, Gone: true, Value: "v"},
	}
	for _, c := range bad {
		for _, most := range mosts() {
			mustRefuse(t, []api.Cell{c}, most, api.ErrArg)
			mustRefuse(t, append(list("a x 1"), c), most, api.ErrArg)
			mustRefuse(t, append([]api.Cell{c}, list("z x 1")...), most, api.ErrArg)
			mustRefuse(t, append(append(list("a x 1"), c), list("z x 1")...), most, api.ErrArg)
		}
	}
	for _, s := range []string{
		"b x 1, a x 1", "a y 1, a x 1", "a x 1, a x 2", "a x 1, a x 1", "a x 1 v, a x 1 w", "a x 1, a x 1 gone", "a x 1, a - 1", "a x 1, - x 1",
		"a x 1, b x 1, a x 1", "a x 2, a x 1, a x 2", "ab x 1, a x 1", "a x 1, b x 1, b x 1, c x 1", "a x 1, c x 1, b x 1, d x 1",
	} {
		for _, most := range mosts() {
			mustRefuse(t, list(s), most, api.ErrArg)
		}
	}
	for _, l := range kinds() {
		for i := range len(l) - 1 {
			other := slices.Clone(l)
			other[i], other[i+1] = other[i+1], other[i]
			mustRefuse(t, other, 40, api.ErrArg)
			mustRefuse(t, slices.Insert(slices.Clone(l), i, l[i]), 40, api.ErrArg)
		}
	}
}

func TestErrArgIsToldAheadOfErrLong(t *testing.T) { // P11.1, R2
	tooLong := api.Cell{Row: "m", Col: "x", Version: 1, Value: long(1 << 16)}
	for _, most := range []int{0, -1, 1<<15 + 1} {
		mustRefuse(t, []api.Cell{tooLong}, most, api.ErrArg)
		mustRefuse(t, many(1<<15+1), most, api.ErrArg)
	}
	for _, most := range []int{1, 1 << 15} {
		mustRefuse(t, []api.Cell{tooLong}, most, api.ErrLong)
		mustRefuse(t, []api.Cell{tooLong, {}}, most, api.ErrArg)
		mustRefuse(t, []api.Cell{{}, tooLong}, most, api.ErrArg)
		mustRefuse(t, []api.Cell{tooLong, {Row: "z", Col: "x"}}, most, api.ErrArg)
		mustRefuse(t, []api.Cell{tooLong, {Row: "z", Col: "x", Version: 1, Gone: true, Value: "v"}, {Row: "zz", Version: 1}}, most, api.ErrArg)
		mustRefuse(t, []api.Cell{tooLong, tooLong}, most, api.ErrArg)
		mustRefuse(t, append([]api.Cell{tooLong}, list("a x 1")...), most, api.ErrArg)
		mustRefuse(t, append(many(1<<15+1), api.Cell{Row: "z", Col: "x"}), most, api.ErrArg)
		mustRefuse(t, append(many(1<<15+1), many(1)...), most, api.ErrArg)
	}
}

func TestPlacesUpToTheLimit(t *testing.T) { // P11.1, P11.2, P11.3
	l := many(1<<15 + 1)
	for _, most := range []int{1, 1024} {
		x := made(t, l[:1<<15], most)
		for _, i := range []int{0, 1, 1 << 14, 1<<15 - 2, 1<<15 - 1} {
			if c, is := x.Get(l[i].Row, "c"); c != l[i] || !is {
				t.Errorf("Get of the place %d = %v, %t", i, c, is)
			}
		}
		if c, is := x.Get(l[1<<15].Row, "c"); is {
			t.Errorf("a place that is not there: %v", c)
		}
		mustRefuse(t, l, most, api.ErrLong)
	}
	mustRefuse(t, l, 1<<15, api.ErrLong)
	// Places are counted, and not cells.
	var twice []api.Cell
	for _, c := range l {
		twice = append(twice, api.Cell{Row: c.Row, Col: c.Col, Version: 2, Gone: true}, c)
	}
	if x := made(t, twice[:1<<16], 1024); x.Len() != 1<<16 {
		t.Errorf("%d cells", x.Len())
	}
	mustRefuse(t, twice[:1<<16+1], 1024, api.ErrLong)
	mustRefuse(t, twice, 1024, api.ErrLong)
	made(t, versions(1<<15+5), 1024)
	// The table of one more, which Write does not make, is none.
	mustOpen(t, laidTable(parted(l[:1<<15], 1000)...))
	mustBeNone(t, laidTable(parted(l, 1000)...))
}

// withIndex are cells of which, a block each, the index has so many bytes:
// close to as many as one may have, so that there are three of the count and
// of each place.
func withIndex(size int) (l []api.Cell) {
	add := func(row string) {
		l = append(l, api.Cell{Row: row, Version: 1})
	}
	at, left := 0, size-3
	for left > 200 {
		add(fmt.Sprintf("%032d", len(l)))
		left -= 1 + 32 + 1 + len(binary.AppendUvarint(nil, uint64(at))) + 1 + 1
		at += 8 + len(laidBlock(l[len(l)-1:]))
	}
	for k := byte('a'); left > 0; k++ {
		n := left - 7
		if n > 32 {
			n = 20
		}
		add(string([]byte{k}) + long(n-1))
		left -= n + 7
	}
	return l
}

// single are blocks of a cell each.
func single(l []api.Cell) (blocks [][]api.Cell) {
	for i := range l {
		blocks = append(blocks, l[i:i+1])
	}
	return blocks
}

func TestAnIndexUpToTheLimit(t *testing.T) { // P11.1, P11.2
	for _, c := range []struct {
		size int
		e    api.Errno
	}{{1<<20 - 1, api.OK}, {1 << 20, api.OK}, {1<<20 + 1, api.ErrLong}} {
		l := withIndex(c.size)
		d := drawn(single(l)...)
		if n := len(d.indexBody()); n != c.size {
			t.Fatalf("the index has %d bytes, not %d", n, c.size)
		}
		s, e := Write(l, 1)
		if e != c.e || e == api.OK && s != d.bytes() || e != api.OK && s != "" {
			t.Errorf("an index of %d bytes: %s, %d", c.size, short(s), e)
		}
		if x, e := Open(d.bytes()); (e == api.OK) != (c.e == api.OK) || (x == nil) == (c.e == api.OK) {
			t.Errorf("a table with an index of %d bytes: %d", c.size, e)
		}
		made(t, l, 1000) // with fewer blocks there is room
	}
	// Of few places too, if there are blocks enough.
	mustRefuse(t, versions(120000), 1, api.ErrLong)
}

// partings are all ways to part cells into blocks that are not empty.
func partings(l []api.Cell) iter.Seq[[][]api.Cell] {
	return func(yield func([][]api.Cell) bool) {
		for ways := range 1 << max(len(l)-1, 0) {
			var blocks [][]api.Cell
			begin := 0
			for i := 1; i <= len(l); i++ {
				if i == len(l) || ways>>(i-1)&1 == 1 {
					blocks = append(blocks, l[begin:i])
					begin = i
				}
			}
			if !yield(blocks) {
				return
			}
		}
	}
}

func TestTablesThatArePartedOtherwise(t *testing.T) { // P11.2, P11.3
	for _, l := range [][]api.Cell{nil, list("a x 1"), alike(7), versions(6), growing(6), kinds()["places"][:6], kinds()["one key"], kinds()["strange"]} {
		n := 0
		for blocks := range partings(l) {
			x, e := Open(laidTable(blocks...))
			if e != api.OK || x.Len() != len(l) || x.Blocks() != len(blocks) {
				t.Fatalf("%s in %d blocks: %d", told(l), len(blocks), e)
			}
			lookAll(t, x, l)
			n++
		}
		if n < len(l) {
			t.Errorf("%d partings", n)
		}
	}
	// Neither the first block nor one behind is as Write would have it.
	l := alike(60)
	for n := range len(l) + 1 {
		for m := n; m <= len(l); m += 7 {
			var blocks [][]api.Cell
			for _, b := range [][]api.Cell{l[:n], l[n:m], l[m:]} {
				if len(b) > 0 {
					blocks = append(blocks, b)
				}
			}
			if x := mustOpen(t, laidTable(blocks...)); x == nil {
				t.Fatalf("parted at %d and %d: refused", n, m)
			}
		}
	}
	// A block that is longer than any may be.
	for _, c := range []struct{ size, blocks int }{{1 << 15, 1}, {1<<15 + 1, 0}} {
		l := grown(alike(3), c.size)
		if x, _ := Open(laidTable(l)); x.Blocks() != c.blocks {
			t.Errorf("a block of %d bytes: %d blocks", c.size, x.Blocks())
		}
	}
}

func TestBytesThatAreNoTables(t *testing.T) { // P11.2, R1, R2
	for n := range 100 {
		for _, fill := range []string{"\x00", "\x01", "\x08", "\x7f", "\x80", "\xff"} {
			mustBeNone(t, strings.Repeat(fill, n))
			mustBeNone(t, strings.Repeat(laidFrame(fill), n))
			mustBeNone(t, strings.Repeat(laidFrame(""), n))
			mustBeNone(t, strings.Repeat(laidFrame(""), n)+strings.Repeat("\x00", 15)+string([]byte{byte(8 * n)}))
			mustBeNone(t, strings.Repeat(fill, 100*n)+strings.Repeat("\x00", 16))
		}
	}
	for _, at := range []uint64{0, 1, 9, 15, 16, 26, 42, 1 << 20, 1 << 31, 1 << 32, math.MaxInt64, 1 << 63, math.MaxUint64, math.MaxUint64 - 15} {
		d := drawn()
		d.index = at
		if at != 0 {
			mustBeNone(t, d.bytes())
		}
		mustBeNone(t, d.footer())
		mustBeNone(t, "x"+d.footer())
		d = drawn()
		d.behind = at
		if at != 9 {
			mustBeNone(t, d.bytes())
		}
	}
	if x := mustOpen(t, drawn().bytes()); x == nil {
		t.Error("the table of no cells is none")
	}
	mustBeNone(t, strings.Repeat("\x00", 1<<21))
}

func TestBytesOfATableThatAreChanged(t *testing.T) { // P11.2, P11.4
	for _, l := range kinds() {
		for _, most := range []int{1, 40, 1 << 15} {
			s := mustWrite(t, l, most)
			for n := range s {
				mustBeNone(t, s[:n])
				if n > 0 {
					mustBeNone(t, s[n:])
				}
			}
			for b := range 256 {
				more := string([]byte{byte(b)})
				mustBeNone(t, s+more)
				mustBeNone(t, more+s)
			}
			for at := range s {
				raw := []byte(s)
				for b := range 256 {
					// Of the long ones not all bytes: each is read as a whole.
					if raw[at] = byte(b); raw[at] == s[at] || len(s) > 150 && (at+b)%41 > 0 {
						continue
					}
					mustBeNone(t, string(raw))
				}
				mustBeNone(t, s[:at]+s[at+1:])
				mustBeNone(t, s[:at]+"\x00"+s[at:])
				mustBeNone(t, s[:at]+s[at:at+1]+s[at:])
			}
			mustBeNone(t, s+s)
			mustBeNone(t, s+laidTable())
			mustBeNone(t, laidTable()+s)
		}
	}
}

// lies are numbers in the place of another one.
func lies(n uint64) []uint64 {
	l := []uint64{n + 1, n - 1, n + 8, n - 8, 2 * n, n ^ 128, 0, 1, 2, 1 << 15, 1 << 31, 1 << 32, 1 << 63, math.MaxUint64}
	return slices.DeleteFunc(l, func(x uint64) bool { return x == n })
}

func TestAnIndexThatLies(t *testing.T) { // P11.2
	l := alike(12)
	d := drawn(l[:4], l[4:5], l[5:9], l[9:])
	if mustOpen(t, d.bytes()) == nil {
		t.Fatal("what is no lie is refused")
	}
	// The filter's place is told as it is then: the index alone lies.
	refuse := func(lie draft) {
		t.Helper()
		lie.behind = lie.index + 8 + uint64(len(lie.indexBody()))
		mustBeNone(t, lie.bytes())
		mustOpen(t, lie.bytes())
	}
	for i, x := range d.rows {
		fields := []func(*indexed, uint64){
			func(x *indexed, n uint64) { x.at = n },
			func(x *indexed, n uint64) { x.size = n },
			func(x *indexed, n uint64) { x.cells = n },
		}
		for k, n := range []uint64{x.at, x.size, x.cells} {
			for _, other := range lies(n) {
				lie := d.copied()
				fields[k](&lie.rows[i], other)
				refuse(lie)
			}
		}
		for _, other := range []string{"", x.row + "\x00", x.row[:len(x.row)-1], "zzz", long(33), long(200), d.rows[(i+1)%4].row} {
			lie := d.copied()
			lie.rows[i].row = other
			if other != x.row {
				refuse(lie)
			}
		}
		for _, other := range []string{"", "w", x.col + "\x00", "z", long(17), long(200)} {
			lie := d.copied()
			lie.rows[i].col = other
			refuse(lie)
		}
		// A block that it does not tell, or tells twice.
		for _, count := range []uint64{3, 4, 5} {
			lie := d.copied()
			lie.rows = slices.Delete(lie.rows, i, i+1)
			lie.count = count
			refuse(lie)
			lie = d.copied()
			lie.rows = slices.Insert(lie.rows, i, d.rows[i])
			lie.count = count
			refuse(lie)
		}
		for j := range i {
			lie := d.copied()
			lie.rows[i], lie.rows[j] = lie.rows[j], lie.rows[i]
			refuse(lie)
		}
	}
	for _, other := range lies(4) {
		lie := d.copied()
		lie.count = other
		refuse(lie)
	}
}

// framed are a draft's bytes with another index.
func framed(d draft, index string) string {
	s := ""
	for _, body := range d.bodies {
		s += laidFrame(body)
	}
	d.behind = d.index + 8 + uint64(len(index))
	return s + laidFrame(index) + laidFrame(d.filter) + d.footer()
}

func TestAnIndexThatIsLaidOtherwise(t *testing.T) { // P11.2
	d := drawn(list("a x 1 v"))
	parts := []string{"01", "01", "61", "01", "78", "00", "15", "01"}
	if index := unhex(strings.Join(parts, "")); index != d.indexBody() || mustOpen(t, framed(d, index)) == nil {
		t.Fatalf("%x", index)
	}
	for _, at := range []int{0, 1, 3, 5, 6, 7} { // numbers that take more bytes than it takes
		b := parts[at]
		high := fmt.Sprintf("%x", unhex(b)[0]|0x80)
		for _, longer := range []string{high + "00", high + "8000", high + "808080808080808000", high + "80808080808080808000", high} {
			other := slices.Clone(parts)
			other[at] = longer
			mustBeNone(t, framed(d, unhex(strings.Join(other, ""))))
		}
	}
	index := d.indexBody()
	for n := range index {
		mustBeNone(t, framed(d, index[:n]))
		mustBeNone(t, framed(d, index[:n]+"\x00"+index[n:]))
	}
	for b := range 256 {
		mustBeNone(t, framed(d, index+string([]byte{byte(b)})))
	}
	mustBeNone(t, framed(drawn(), ""))
	mustBeNone(t, framed(drawn(), "\x00\x00"))
}

func TestBlocksThatCantStandThere(t *testing.T) { // P11.2
	l := list("a x 2 v, a x 1, b x 2, b x 1, c x 1 gone, d x 1")
	a, b, c := l[:2], l[2:4], l[4:]
	if mustOpen(t, laidTable(a, b, c)) == nil {
		t.Fatal("in order they are refused")
	}
	for _, blocks := range [][][]api.Cell{
		{b, a}, {a, c, b}, {c, b, a}, // out of order
		{a, a}, {a, a, b}, {a, b, b}, {a, b, a}, {l[:1], l[:1]}, // twice
		{l[1:2], l[:1]}, {l[:2], l[1:3]}, {l[:3], l[2:]}, {b[1:], b[:1]}, // of one place the older ahead, or one twice
		{list("a x 1 v"), list("a x 1 w")}, {list("a x 1"), list("a x 1 gone")},
		{list("a x 1, b x 1"), list("a y 1, c x 1")}, // one within the other
		{nil}, {nil, a}, {a, nil}, {a, nil, b}, {a, b, nil, nil}, // empty ones
	} {
		mustBeNone(t, laidTable(blocks...))
		mustOpen(t, laidTable(blocks...))
	}
	for _, bad := range []api.Cell{
		{},
		{Row: "m", Col: "x"},
		{Row: long(33), Col: "x", Version: 1},
		{Row: "m", Col: long(17), Version: 1},
		{Row: "m", Col: "x", Version: 1<<40 + 1},
		{Row: "m", Col: "x", Version: 1, Gone: true, Value: "v"},
	} {
		mustBeNone(t, laidTable([]api.Cell{bad}))
		mustBeNone(t, laidTable(a, []api.Cell{bad}))
		mustBeNone(t, laidTable(append(slices.Clone(a), bad)))
	}
	// Cells out of order, or twice, within a block.
	mustBeNone(t, laidTable([]api.Cell{l[1], l[0]}))
	mustBeNone(t, laidTable([]api.Cell{l[0], l[0]}))
	mustBeNone(t, laidTable(a, []api.Cell{c[0], b[0]}))
}

func TestFramesThatStandOtherwise(t *testing.T) { // P11.2
	l := alike(8)
	d := drawn(l[:3], l[3:])
	first, second := laidFrame(d.bodies[0]), laidFrame(d.bodies[1])
	index, filter, footer := laidFrame(d.indexBody()), laidFrame(d.filter), d.footer()
	if mustOpen(t, first+second+index+filter+footer) == nil {
		t.Fatal("as they are to stand they are refused")
	}
	empty := laidFrame("")
	for _, s := range []string{
		second + first + index + filter + footer,
		first + second + filter + index + footer,
		index + first + second + filter + footer,
		first + index + second + filter + footer,
		first + index + filter + footer,
		first + second + filter + footer,
		first + second + index + footer,
		first + second + index + filter,
		first + second + index + filter + footer + footer,
		first + second + footer + index + filter + footer,
		first + second + index + index + filter + footer,
		first + second + index + filter + filter + footer,
		first + first + second + index + filter + footer,
	} {
		mustBeNone(t, s)
	}
	// Frames, or other bytes, between those of the table, with a footer that tells where these are.
	for _, more := range []string{empty, "\x00", long(8), laidFrame("\x00\x00"), first} {
		n := uint64(len(more))
		for _, c := range []struct {
			s             string
			index, behind uint64
		}{
			{more + first + second + index + filter, d.index + n, d.behind + n},
			{first + more + second + index + filter, d.index + n, d.behind + n},
			{first + second + more + index + filter, d.index + n, d.behind + n},
			{first + second + more + index + filter, d.index, d.behind + n},
			{first + second + index + more + filter, d.index, d.behind + n},
			{first + second + index + more + filter, d.index, d.behind},
			{first + second + index + filter + more, d.index, d.behind},
		} {
			mustBeNone(t, c.s+draft{index: c.index, behind: c.behind}.footer())
		}
	}
	// An index that tells true where the blocks are, though they stand apart.
	for _, more := range []string{empty, "\x00"} {
		lie := d.copied()
		lie.rows[1].at += uint64(len(more))
		lie.index += uint64(len(more))
		lie.behind = lie.index + 8 + uint64(len(lie.indexBody()))
		mustBeNone(t, first+more+second+laidFrame(lie.indexBody())+filter+lie.footer())
	}
	// Blocks in another order, which the index tells in theirs.
	lie := d.copied()
	lie.rows[0].at, lie.rows[1].at = uint64(len(second)), 0
	mustBeNone(t, second+first+laidFrame(lie.indexBody())+filter+lie.footer())
	// Two blocks' bytes in one frame.
	lie = d.copied()
	lie.bodies = []string{d.bodies[0] + d.bodies[1]}
	mustBeNone(t, lie.bytes())
}

func TestAnotherFilter(t *testing.T) { // P11.2
	l := alike(20)
	d := drawn(l[:7], l[7:])
	var keys, each []string
	for i, c := range l {
		key := c.Row + "\x00" + c.Col
		each = append(each, key)
		if i%2 == 0 {
			keys = append(keys, key)
		}
	}
	if laidFilter(keys, 10) != d.filter || mustOpen(t, d.bytes()) == nil {
		t.Fatal("the filter of the keys is refused")
	}
	var rows, plain []string
	for _, key := range keys {
		row, col, _ := strings.Cut(key, "\x00")
		rows, plain = append(rows, row), append(plain, row+col)
	}
	refuse := func(filter string) {
		t.Helper()
		lie := d
		lie.filter = filter
		mustBeNone(t, lie.bytes())
	}
	refuse("")
	refuse("\x00")
	refuse(laidFilter(nil, 10))
	refuse(laidFilter(each, 10))
	refuse(laidFilter(rows, 10))
	refuse(laidFilter(plain, 10))
	refuse(laidFilter(keys[1:], 10))
	refuse(laidFilter(append(slices.Clone(keys), "more"), 10))
	for bits := 1; bits <= 32; bits++ {
		if bits != 10 {
			refuse(laidFilter(keys, bits))
		}
	}
	for i := range d.filter {
		for bit := range 8 {
			b := []byte(d.filter)
			b[i] ^= 1 << bit
			refuse(string(b))
		}
	}
	refuse(d.filter + "\x00")
	refuse(d.filter[:len(d.filter)-1])
	refuse(d.filter[:1] + strings.Repeat("\xff", len(d.filter)-1))
	refuse(long(1 << 18))
	// A filter that is only a smaller table's.
	small := drawn(list("a x 1"))
	for _, filter := range []string{laidFilter(nil, 10), laidFilter([]string{"a"}, 10), laidFilter([]string{"ax"}, 10), laidFilter([]string{"a\x00x", "a\x00x\x00"}, 10)} {
		lie := small
		lie.filter = filter
		mustBeNone(t, lie.bytes())
	}
}

func TestPlacesWithOneKeyCountEach(t *testing.T) { // P11.1, P11.2
	// Eight places: of fewer a filter has 64 bits however many there are.
	l := []api.Cell{{Row: "a", Col: "b\x00c", Version: 1}, {Row: "a\x00b", Col: "c", Version: 1}}
	for i := range 6 {
		l = append(l, api.Cell{Row: "b", Col: strconv.Itoa(i), Version: 1})
	}
	x := made(t, l, 1)
	if len(x.filter) != 1+10 {
		t.Errorf("the filter of eight places, two of one key, has %d bytes", len(x.filter))
	}
	lookAll(t, x, l)
	// The filter lets a place by that has only the key of one.
	x = made(t, l[:1], 1)
	if c, is := x.Get("a\x00b", "c"); c != (api.Cell{}) || is {
		t.Errorf("a place with the key of another one: %v, %t", c, is)
	}
	x = made(t, l[1:], 1)
	if c, is := x.Get("a", "b\x00c"); c != (api.Cell{}) || is {
		t.Errorf("a place with the key of another one: %v, %t", c, is)
	}
}

func TestAnotherFooter(t *testing.T) { // P11.2, P11.4
	l := alike(9)
	for _, d := range []draft{drawn(), drawn(l[:1]), drawn(l[:4], l[4:]), drawn(l[:1], l[1:2], l[2:3], l[3:])} {
		for _, other := range lies(d.index) {
			lie := d
			lie.index = other
			mustBeNone(t, lie.bytes())
		}
		for _, other := range lies(d.behind) {
			lie := d
			lie.behind = other
			mustBeNone(t, lie.bytes())
		}
		d.index, d.behind = d.behind, d.index
		mustBeNone(t, d.bytes())
	}
	// Each frame's place in the stead of the index'.
	d := drawn(l[:1], l[1:2], l[2:3], l[3:])
	for i := range d.rows {
		lie := d
		lie.index = d.rows[i].at
		mustBeNone(t, lie.bytes())
		lie.behind = d.rows[i].at
		mustBeNone(t, lie.bytes())
	}
}

func TestOtherBytesWithinRightFrames(t *testing.T) { // P11.2
	taken := 0
	for _, l := range [][]api.Cell{list("a x 1 v"), list("a x 2 v, a x 1 gone, b y 3 w"), alike(9)} {
		half := (len(l) + 1) / 2
		d := drawn(l[:half])
		if half < len(l) {
			d = drawn(l[:half], l[half:])
		}
		for i, body := range d.bodies {
			for at := range body {
				for _, b := range []byte{1, 2, 3, 4, 7, 0x10, 0x80, 0xff} {
					raw := []byte(body)
					raw[at] ^= b
					lie := d.copied()
					lie.bodies[i] = string(raw)
					if mustOpen(t, lie.bytes()) != nil {
						taken++
					}
				}
			}
		}
		index := d.indexBody()
		for at := range index {
			for b := 1; b < 256; b++ {
				raw := []byte(index)
				raw[at] ^= byte(b)
				mustBeNone(t, framed(d, string(raw)))
				mustOpen(t, framed(d, string(raw)))
			}
		}
	}
	// Another value, or another version, changes neither index nor filter.
	if taken == 0 {
		t.Error("no other value is a table's")
	}
}

func TestGetAndFromTellWhatIsThere(t *testing.T) { // P11.3, P11.5
	for _, l := range kinds() {
		for _, most := range mosts() {
			lookAll(t, made(t, l, most), l)
		}
	}
}

func TestEachSideOfABlocksEnd(t *testing.T) { // P11.3
	var l []api.Cell
	for i := range 40 {
		l = append(l, api.Cell{Row: string([]byte{'r', byte(2*i + 1)}), Col: "m", Version: uint64(i + 1), Gone: i%3 == 0})
	}
	for _, most := range []int{1, 12, 13, 20, 30, 60, 100, 1 << 15} {
		x := made(t, l, most)
		for i, want := range l {
			if c, is := x.Get(want.Row, "m"); c != want || !is {
				t.Errorf("with %d: Get(%d) = %v, %t", most, i, c, is)
			}
			tells(t, x.From(want.Row, "m"), l[i:])
			tells(t, x.From(want.Row, ""), l[i:])
			tells(t, x.From(want.Row, "l"), l[i:])
			tells(t, x.From(want.Row, "n"), l[i+1:])
			tells(t, x.From(want.Row, "m\x00"), l[i+1:])
		}
		for i := range len(l) + 1 { // ahead of all, between each two, behind all
			row := string([]byte{'r', byte(2 * i)})
			if c, is := x.Get(row, "m"); c != (api.Cell{}) || is {
				t.Errorf("with %d: Get ahead of %d = %v, %t", most, i, c, is)
			}
			tells(t, x.From(row, "m"), l[i:])
			tells(t, x.From(row, "\xff"), l[i:])
		}
	}
}

func TestVersionsOfAPlaceAcrossBlocks(t *testing.T) { // P11.3, P11.5
	for _, many := range []int{1, 2, 3, 8, 9, 30} {
		for _, gone := range []int{0, 1} {
			l := list("m w 9 v, m w 8")
			for v := many; v > 0; v-- {
				l = append(l, api.Cell{Row: "m", Col: "x", Version: uint64(v), Gone: v%2 == gone})
			}
			newest, behind := l[2], one("m y 7 v")
			l = append(l, behind)
			for _, most := range []int{1, 16, 17, 24, 25, 60, 1 << 15} {
				x := made(t, l, most)
				if c, is := x.Get("m", "x"); c != newest || !is {
					t.Errorf("%d versions with %d: %v, %t", many, most, c, is)
				}
				tells(t, x.From("m", "x"), l[2:])
				tells(t, x.From("m", "xx"), l[len(l)-1:])
				if c, is := x.Get("m", "y"); c != behind || !is {
					t.Errorf("%d versions with %d: behind them %v, %t", many, most, c, is)
				}
			}
			// Parted at each of them.
			for n := 1; n < len(l); n++ {
				x := mustOpen(t, laidTable(l[:n], l[n:]))
				if c, is := x.Get("m", "x"); c != newest || !is {
					t.Errorf("%d versions parted at %d: %v, %t", many, n, c, is)
				}
			}
		}
	}
}

func TestPlacesThatNoCellHas(t *testing.T) { // P11.3, R1
	for _, l := range [][]api.Cell{nil, list("- x 1"), list("a x 1"), alike(20)} {
		x := made(t, l, 30)
		for _, row := range []string{"", long(33), long(1 << 16), "\xff", strings.Repeat("\x00", 33)} {
			for _, col := range []string{"", long(17), long(1 << 16), "\xff"} {
				if c, is := x.Get(row, col); c != (api.Cell{}) || is {
					t.Errorf("Get(%.20q, %.20q) = %v, %t", row, col, c, is)
				}
				look(t, x, l, row, col)
			}
		}
	}
}

func TestIteratorsThatAreLeftEarly(t *testing.T) { // R8
	l := alike(30)
	for _, most := range []int{1, 40, 1 << 15} {
		x := made(t, l, most)
		all, from := x.All(), x.From(l[10].Row, l[10].Col)
		for n := range len(l) + 1 {
			var got []api.Cell
			for c := range all {
				if len(got) == n {
					break
				}
				got = append(got, c)
			}
			if !slices.Equal(got, l[:n]) {
				t.Fatalf("the first %d: %s", n, told(got))
			}
		}
		calls := 0
		all(func(api.Cell) bool {
			calls++
			return calls < 5
		})
		if calls != 5 {
			t.Errorf("told %d cells to one who takes five", calls)
		}
		tells(t, all, l)
		tells(t, from, l[10:])
		tells(t, from, l[10:])
	}
}

func TestIteratorsWithinOneAnother(t *testing.T) { // R8
	l := alike(14)
	for _, most := range []int{1, 40, 1 << 15} {
		x := made(t, l, most)
		all := x.All()
		i := 0
		for c := range all {
			if c != l[i] {
				t.Fatalf("%d: %v", i, c)
			}
			j := 0
			for d := range all { // the same one, within itself
				if d != l[j] {
					t.Fatalf("%d, %d: %v", i, j, d)
				}
				if got, is := x.Get(d.Row, d.Col); !is || got != l[j-j%2] {
					t.Fatalf("%d, %d: Get = %v, %t", i, j, got, is)
				}
				j++
			}
			tells(t, x.From(c.Row, c.Col), l[i-i%2:])
			if j != len(l) {
				t.Fatalf("%d: told %d", i, j)
			}
			i++
		}
		next, stop := iter.Pull(all)
		other, stopOther := iter.Pull(x.From("", ""))
		for _, want := range l {
			a, _ := next()
			b, _ := other()
			if a != want || b != want {
				t.Fatalf("side by side: %v, %v, not %v", a, b, want)
			}
		}
		stop()
		stopOther()
	}
}

func TestTablesThatAreNone(t *testing.T) { // R1, R3
	var none *Table
	refused, _ := Open("")
	for _, x := range []*Table{none, refused, new(Table), {}} {
		if c, is := x.Get("a", "x"); c != (api.Cell{}) || is || x.Len() != 0 || x.Blocks() != 0 {
			t.Errorf("%v, %t, %d, %d", c, is, x.Len(), x.Blocks())
		}
		tells(t, x.All(), nil)
		tells(t, x.From("", ""), nil)
		tells(t, x.From("a", "x"), nil)
		x.All()(nil)
	}
	x := made(t, alike(5), 1)
	x.All()(nil)
	x.From("a", "")(nil)
}

func TestNoCells(t *testing.T) { // P11.1, R4
	room := alike(9)
	for _, l := range [][]api.Cell{nil, {}, room[:0], room[9:]} {
		for _, most := range mosts() {
			x := made(t, l, most)
			if x.Len() != 0 || x.Blocks() != 0 {
				t.Errorf("%d cells, %d blocks", x.Len(), x.Blocks())
			}
			lookAll(t, x, nil)
		}
	}
}

func TestWhatIsHandedInIsNotChanged(t *testing.T) { // R5
	whole := alike(60)
	was := slices.Clone(whole)
	for _, l := range [][]api.Cell{whole, whole[4:20], whole[:0], whole[3:3], whole[:8], whole[:9:9]} {
		for _, most := range mosts() {
			Write(l, most)
			if !slices.Equal(whole, was) {
				t.Fatal("the cells, or those behind them, were changed")
			}
		}
	}
	slices.Reverse(whole)
	slices.Reverse(was)
	Write(whole, 1)
	if !slices.Equal(whole, was) {
		t.Fatal("cells that were refused were changed")
	}
}

// over is a text over the bytes themselves, which go on being changed.
func over(b []byte) string { return unsafe.String(unsafe.SliceData(b), len(b)) }

func TestWhatIsHandedInIsNotKept(t *testing.T) { // R5
	row, col, value := []byte("row"), []byte("col"), []byte("value")
	want := list("row col 2 value, row col 1 gone, s x 1 v")
	l := []api.Cell{{Row: over(row), Col: over(col), Version: 2, Value: over(value)}, {Row: over(row), Col: over(col), Version: 1, Gone: true}, want[2]}
	s, e := Write(l, 1)
	was := strings.Clone(s)
	row[0], col[0], value[0], l[1].Version = 'x', 'x', 'x', 7
	if s != was || e != api.OK || was != laidTable(want[:1], want[1:2], want[2:]) {
		t.Errorf("%x, %d: a table's bytes change with the cells of which it was made", s, e)
	}

	raw, r, c := []byte(was), []byte("row"), []byte("col")
	x, e := Open(over(raw))
	from := x.From(over(r), over(c))
	behind := x.From("row", over([]byte("d")))
	clear(raw)
	clear(r)
	clear(c)
	if e != api.OK {
		t.Fatal(e)
	}
	r[0], c[0] = 'z', 'z'
	tells(t, x.All(), want)
	tells(t, from, want)
	tells(t, behind, want[2:])
	lookAll(t, x, want)
}

func TestAnswersAreNewMemory(t *testing.T) { // R5
	l := slices.Concat(list("a x 2 v, a x 1 v"), versions(20), list("s x 2 v, sa x 1 v"))
	for _, most := range []int{1, 60, 1 << 15} {
		s := mustWrite(t, l, most)
		seen := map[*byte]string{}
		watch := func(texts ...string) {
			t.Helper()
			for _, text := range texts {
				if text == "" {
					continue
				}
				at := unsafe.StringData(text)
				if other, is := seen[at]; is {
					t.Errorf("%q shares its memory with %q", text, short(other))
				}
				seen[at] = text
			}
		}
		watchAll := func(s string) {
			for i := range s {
				seen[unsafe.StringData(s[i:])] = s
			}
		}
		watchAll(s)
		for _, c := range l {
			watchAll(c.Row)
			watchAll(c.Col)
			watchAll(c.Value)
		}
		x := mustOpen(t, s)
		for i, body := range x.bodies {
			watchAll(body)
			watchAll(x.lasts[i].row)
			watchAll(x.lasts[i].col)
		}
		row, col := strings.Clone("s"), strings.Clone("x")
		watchAll(row)
		watchAll(col)
		all := x.All()
		for range 2 {
			for c := range all {
				watch(c.Row, c.Col, c.Value)
			}
			for c := range x.From(row, col) {
				watch(c.Row, c.Col, c.Value)
			}
			c, _ := x.Get(row, col)
			watch(c.Row, c.Col, c.Value)
			again, _ := Write(l, most)
			watch(again)
		}
	}
}

func TestTheSameAsksAreAnsweredTheSame(t *testing.T) { // R6
	for _, l := range kinds() {
		for _, most := range mosts() {
			first := mustWrite(t, l, most)
			// Nothing that was asked in between, nor the room behind, may tell.
			Write(alike(3), 1)
			Open("none")
			roomy := append(make([]api.Cell, 0, 200), l...)
			for _, again := range [][]api.Cell{l, roomy, slices.Clip(roomy)} {
				if mustWrite(t, again, most) != first {
					t.Fatal("asked again another table")
				}
			}
			x := mustOpen(t, first)
			x.Get("row", "x")
			for range x.From("row", "x") {
				break
			}
			tells(t, x.All(), l)
			if x.Len() != len(l) {
				t.Fatal("what was asked changes a table")
			}
		}
	}
}

// anyCells are cells in order that chance tells, of rows that often begin alike.
func anyCells(chance *rand.Rand, most int) []api.Cell {
	var l []api.Cell
	for range chance.Intn(most + 1) {
		c := api.Cell{Version: 1 + uint64(chance.Int63n(1<<chance.Intn(41)))}
		row := make([]byte, chance.Intn(4))
		for i := range row {
			row[i] = "\x00ab\xff"[chance.Intn(4)]
		}
		c.Row = long(26*chance.Intn(2)) + string(row)
		c.Col = []string{"", "x", "y", "\x00", "\xff", long(16)}[chance.Intn(6)]
		if c.Gone = chance.Intn(3) == 0; !c.Gone {
			c.Value = strings.Repeat("v", chance.Intn(4)*chance.Intn(70))
			if chance.Intn(40) == 0 {
				c.Value = long(chance.Intn(1<<15 - 100))
			}
		}
		if mayBe(c) {
			l = append(l, c)
		}
	}
	slices.SortStableFunc(l, func(a, b api.Cell) int {
		if isAhead(a, b) {
			return -1
		}
		if isAhead(b, a) {
			return 1
		}
		return 0
	})
	return slices.CompactFunc(l, func(a, b api.Cell) bool { return !isAhead(a, b) })
}

func TestAnyCellsComeBack(t *testing.T) { // P11.1 to P11.5
	chance := rand.New(rand.NewSource(11))
	for range 400 {
		l := anyCells(chance, 60)
		most := 1 + chance.Intn(1<<chance.Intn(16))
		x := made(t, l, most)
		for range 8 {
			look(t, x, l, string([]byte{"\x00ab\xff"[chance.Intn(4)]}), "x")
			if len(l) > 0 {
				c := l[chance.Intn(len(l))]
				look(t, x, l, c.Row, c.Col)
				look(t, x, l, c.Row, "xx")
				look(t, x, l, c.Row+"\x00", "")
			}
		}
	}
}

func TestOneBitIsTurned(t *testing.T) { // P11.4
	chance := rand.New(rand.NewSource(114))
	for range 30 {
		s := mustWrite(t, anyCells(chance, 40), 1+chance.Intn(300))
		for range 100 {
			b := []byte(s)
			b[chance.Intn(len(b))] ^= 1 << chance.Intn(8)
			mustBeNone(t, string(b))
		}
	}
}

func FuzzTablesAreAsTheWordsSay(f *testing.F) { // P11.1 to P11.5, R1, R2
	for _, l := range kinds() {
		f.Add(laidTable(parted(l, 40)...), 40, "row", "x", 7, byte(1))
	}
	f.Add("", 0, "", "", 0, byte(0))
	f.Add(strings.Repeat("abx", 40), 1, "a", "", 200, byte(255))
	f.Fuzz(func(t *testing.T, s string, most int, row, col string, at int, turn byte) {
		if len(s) > 1<<12 {
			return
		}
		mustOpen(t, s)
		// The bytes as cells, in order or not.
		var l []api.Cell
		for i := 0; i+4 <= len(s); i += 4 {
			l = append(l, api.Cell{Row: row + s[i:i+1], Col: s[i+1 : i+2], Version: uint64(s[i+2]), Value: s[i+3 : i+4]})
		}
		mustWrite(t, l, most)
		slices.SortFunc(l, func(a, b api.Cell) int {
			if isAhead(a, b) {
				return -1
			}
			return 1
		})
		l = slices.CompactFunc(l, func(a, b api.Cell) bool { return !isAhead(a, b) })
		if mustWrite(t, l, most) == "" {
			return
		}
		x := made(t, l, most)
		look(t, x, l, row, col)
		for _, c := range l {
			look(t, x, l, c.Row, c.Col)
		}
		// One byte of a body, or of the footer, turned within right frames.
		d := drawn(parted(l, most)...)
		bodies := append(slices.Clone(d.bodies), d.indexBody(), d.filter, d.footer())
		raw := []byte(strings.Join(bodies, ""))
		raw[uint(at)%uint(len(raw))] ^= turn
		lie := ""
		for i, body := range bodies {
			piece := string(raw[:len(body)])
			raw = raw[len(body):]
			if i < len(bodies)-1 {
				piece = laidFrame(piece)
			}
			lie += piece
		}
		mustOpen(t, lie)
	})
}
