package keys

import (
	"fmt"
	"math"
	"math/rand"
	"slices"
	"strings"
	"testing"
	"unsafe"

	"acreage/api"
)

// span reads a range that is written as the chapter writes it: low..high.
func span(s string) api.Range {
	low, high, _ := strings.Cut(s, "..")
	return api.Range{Low: low, High: high}
}

func spans(s string) (l []api.Range) {
	for _, word := range strings.Fields(s) {
		l = append(l, span(word))
	}
	return l
}

// texts are all of at most size bytes, each of them one of three: the least
// one, a common one, the greatest one. They are not in order.
func texts(size int) []string {
	all := []string{""}
	for begin := 0; size > 0; size-- {
		end := len(all)
		for _, s := range all[begin:end] {
			all = append(all, s+"\x00", s+"a", s+"\xff")
		}
		begin = end
	}
	return all
}

// everyRange has all ranges, those that may not be too, between the ends.
func everyRange(ends []string) (l []api.Range) {
	for _, low := range ends {
		for _, high := range ends {
			l = append(l, api.Range{Low: low, High: high})
		}
	}
	return l
}

// ahead says whether a is ahead of b, byte by byte, a beginning ahead of the whole.
func ahead(a, b string) bool {
	for i := range min(len(a), len(b)) {
		if a[i] != b[i] {
			return a[i] < b[i]
		}
	}
	return len(a) < len(b)
}

// mayBe says whether a range may be, as DOC.md words it.
func mayBe(r api.Range) bool {
	return len(r.Low) <= 24 && len(r.High) <= 24 && (r.High == "" || ahead(r.Low, r.High))
}

// isHad says whether a range has a text, as the chapter words it.
func isHad(r api.Range, s string) bool {
	return !ahead(s, r.Low) && (r.High == "" || ahead(s, r.High))
}

func long(n int) string { return strings.Repeat("x", n) }

func TestKeysByTheirLength(t *testing.T) { // P3.1
	for _, x := range []struct {
		bytes        int
		user, stored bool
	}{{0, false, true}, {1, true, true}, {2, true, true}, {23, true, true}, {24, true, true}, {25, false, true}, {31, false, true}, {32, false, true}, {33, false, false}, {1 << 20, false, false}} {
		// Bytes are counted, not runes, and may be any.
		for _, fill := range []string{"x", "\x00", "\xff", "é", "世"} {
			key := strings.Repeat(fill, x.bytes)[:x.bytes]
			if User(key) != x.user || Stored(key) != x.stored {
				t.Errorf("%d bytes of %q: User %v, Stored %v", x.bytes, fill, User(key), Stored(key))
			}
		}
	}
}

func TestCheckOfKnownRanges(t *testing.T) { // P3.1
	for s, want := range map[string]api.Errno{
		"a..b":                     api.OK,
		"..":                       api.OK,
		"b..a":                     api.ErrArg,
		"a..a":                     api.ErrArg,
		"a..":                      api.OK,
		"..a":                      api.OK,
		"..\x00":                   api.OK,
		"\x00..":                   api.OK,
		"a..aa":                    api.OK,
		"aa..a":                    api.ErrArg,
		"a..a\x00":                 api.OK,
		"a\x00..a":                 api.ErrArg,
		"b..aa":                    api.ErrArg,
		"aa..b":                    api.OK,
		"\x7f..\x80":               api.OK,
		"\x80..\x7f":               api.ErrArg,
		"\xff..":                   api.OK,
		long(24) + "..":            api.OK,
		long(25) + "..":            api.ErrArg,
		".." + long(24):            api.OK,
		".." + long(25):            api.ErrArg,
		long(24) + "..y":           api.OK,
		long(25) + "..y":           api.ErrArg,
		"a.." + long(25):           api.ErrArg,
		long(23) + ".." + long(24): api.OK,
		long(24) + ".." + long(25): api.ErrArg,
		long(24) + ".." + long(24): api.ErrArg,
		long(32) + ".." + long(33): api.ErrArg,
		long(1<<16) + "..":         api.ErrArg,
	} {
		if e := Check(span(s)); e != want {
			t.Errorf("Check(%q) = %d, want %d", s, e, want)
		}
	}
}

func TestCheckOfEveryRange(t *testing.T) { // P3.1
	for _, r := range everyRange(texts(3)) {
		if got := Check(r); got != api.OK && got != api.ErrArg || (got == api.OK) != mayBe(r) {
			t.Errorf("Check(%q) = %d", r, got)
		}
	}
}

func TestHasOfKnownRanges(t *testing.T) { // P3.2
	for _, x := range []struct {
		r, key string
		want   bool
	}{
		{"a..b", "a", true}, {"a..b", "b", false}, {"a..", "zz", true}, {"b..a", "b", false},
		{"a..b", "", false}, {"a..b", "a\x00", true}, {"a..b", "a\xff\xff", true}, {"a..b", "`", false},
		{"..", "", true}, {"..", "\xff", true}, {"..\x00", "", true}, {"..\x00", "\x00", false},
		{"aa..b", "a", false}, {"a..aa", "aa", false}, {"a..aa", "a", true},
		{"b..a", "a", false}, {"b..a", "", false}, {"b..a", "c", false}, {"a..a", "a", false},
		{"\x7f..\x81", "\x80", true},
		{"..", long(33), true}, {long(25) + "..", long(25), true}, {long(25) + "..", long(24), false}, {".." + long(40), long(39), true},
	} {
		if got := Has(span(x.r), x.key); got != x.want {
			t.Errorf("Has(%q, %q) = %v", x.r, x.key, got)
		}
	}
}

func TestHasOfEveryRange(t *testing.T) { // P3.2
	for _, r := range everyRange(texts(2)) {
		for _, s := range texts(3) {
			if got := Has(r, s); got != isHad(r, s) {
				t.Errorf("Has(%q, %q) = %v", r, s, got)
			}
		}
	}
}

func TestMeetOfKnownRanges(t *testing.T) { // P3.2
	for _, x := range []struct {
		a, b string
		want bool
	}{
		{"a..c", "b..d", true}, {"a..b", "b..c", false}, {"..", "a..", true}, {"b..a", "..", false},
		{"a..b", "c..d", false}, {"a..d", "b..c", true}, {"a..b", "a..b", true}, {"a..b", "a..c", true}, {"a..c", "b..c", true},
		{"..a", "a..", false}, {"..", "..", true}, {"a..", "b..", true}, {"..a", "..b", true},
		{"a..a", "a..a", false}, {"b..a", "b..a", false}, {"b..a", "a..b", false}, {"a..a", "..", false}, {"c..b", "a..d", false},
		{"a..aa", "aa..b", false}, {"a..aa", "a\xff..b", false}, {"a..b", "aa..", true},
		{long(30) + "..", ".." + long(31), true}, {long(31) + "..", ".." + long(31), false},
	} {
		if got := Meet(span(x.a), span(x.b)); got != x.want {
			t.Errorf("Meet(%q, %q) = %v", x.a, x.b, got)
		}
		if got := Meet(span(x.b), span(x.a)); got != x.want {
			t.Errorf("Meet(%q, %q) = %v", x.b, x.a, got)
		}
	}
}

func TestMeetOfEveryTwoRanges(t *testing.T) { // P3.2, P3.6
	list := everyRange(texts(2))
	for _, a := range list {
		for _, b := range list {
			// If there is a text that both have, the greater Low is one.
			want := slices.ContainsFunc([]string{a.Low, b.Low}, func(s string) bool { return isHad(a, s) && isHad(b, s) })
			got := Meet(a, b)
			if got != want {
				t.Fatalf("Meet(%q, %q) = %v", a, b, got)
			}
			apart := a.High != "" && !ahead(b.Low, a.High) || b.High != "" && !ahead(a.Low, b.High)
			if mayBe(a) && mayBe(b) && got == apart {
				t.Fatalf("Meet(%q, %q) = %v; one ends ahead of the other, or where it begins: %v", a, b, got, apart)
			}
		}
	}
}

func TestMeetSaysWhetherThereIsAText(t *testing.T) { // P3.2
	all := texts(3)
	list := everyRange(texts(1))
	for _, a := range list {
		for _, b := range list {
			want := slices.ContainsFunc(all, func(s string) bool { return isHad(a, s) && isHad(b, s) })
			if got := Meet(a, b); got != want {
				t.Errorf("Meet(%q, %q) = %v", a, b, got)
			}
		}
	}
}

func TestSplitOfKnownRanges(t *testing.T) { // P3.3
	for _, x := range []struct{ r, key, left, right string }{
		{"a..c", "b", "a..b", "b..c"},
		{"..", "m", "..m", "m.."},
		{"..", "\x00", "..\x00", "\x00.."},
		{"a..", "a\x00", "a..a\x00", "a\x00.."},
		{"..c", "b", "..b", "b..c"},
		{"a..b", "a\xff", "a..a\xff", "a\xff..b"},
		{"..", long(24), ".." + long(24), long(24) + ".."},
		{long(23) + "..y", long(24), long(23) + ".." + long(24), long(24) + "..y"},
	} {
		left, right, e := Split(span(x.r), x.key)
		if left != span(x.left) || right != span(x.right) || e != api.OK {
			t.Errorf("Split(%q, %q) = %q, %q, %d", x.r, x.key, left, right, e)
		}
	}
}

func TestSplitThatMayNotBe(t *testing.T) { // P3.3, R2
	for _, x := range [][2]string{
		{"a..c", "a"}, {"a..c", "c"}, {"..", ""}, {"a..c", ""}, {"a..c", "A"}, {"a..c", "d"}, {"a..c", "ca"}, {"a..", "a"}, {"aa..", "a"}, {"..a", ""},
		{"c..a", "b"}, {"c..a", "c"}, {"c..a", "d"}, {"a..a", "a"}, {"a..a", "b"},
		{"..", long(25)}, {"a..", long(25)}, {"..", long(1 << 16)},
		{long(25) + "..", "y"}, {long(25) + "..", long(26)}, {".." + long(25), "b"}, {"a.." + long(25), "b"},
	} {
		left, right, e := Split(span(x[0]), x[1])
		if left != (api.Range{}) || right != (api.Range{}) || e != api.ErrArg {
			t.Errorf("Split(%q, %q) = %q, %q, %d", x[0], x[1], left, right, e)
		}
	}
}

func TestSplitPartsARange(t *testing.T) { // P3.3, P3.6, R2
	all := texts(3)
	for _, r := range everyRange(texts(2)) {
		for _, key := range texts(2) {
			left, right, e := Split(r, key)
			if !mayBe(r) || !ahead(r.Low, key) || !isHad(r, key) {
				if left != (api.Range{}) || right != (api.Range{}) || e != api.ErrArg {
					t.Fatalf("Split(%q, %q) = %q, %q, %d", r, key, left, right, e)
				}
				continue
			}
			if e != api.OK || left != (api.Range{Low: r.Low, High: key}) || right != (api.Range{Low: key, High: r.High}) {
				t.Fatalf("Split(%q, %q) = %q, %q, %d", r, key, left, right, e)
			}
			if Check(left) != api.OK || Check(right) != api.OK || Meet(left, right) {
				t.Fatalf("Split(%q, %q): one of the two may not be, or they meet", r, key)
			}
			for _, s := range all {
				if Has(left, s) && Has(right, s) || (Has(left, s) || Has(right, s)) != Has(r, s) {
					t.Fatalf("Split(%q, %q): %q is had by %v, %v of the two, %v of the whole", r, key, s, Has(left, s), Has(right, s), Has(r, s))
				}
			}
		}
	}
}

func TestGapOfKnownRanges(t *testing.T) { // P3.4
	for _, x := range []struct{ l, want string }{
		{"", ".."}, {"..b d..", "b..d"}, {"b.. ..a", "a..b"}, {"c..d ..b a..c", "d.."},
		{"..b", "b.."}, {"b..", "..b"}, {"b..c", "..b"}, {"b..c a..b", "..a"}, {"x.. b..c", "..b"},
		{"..a a..b b..c", "c.."}, {"b..c a..b ..a", "c.."}, {"..a b..c d..e", "a..b"}, {"d..e b..c ..a", "a..b"},
		{"..m b..c", "m.."}, {"..m b..c n..", "m..n"}, {"b..c ..m n..", "m..n"}, {"..m b..c m..n", "n.."},
		{"..b ..b", "b.."}, {"..b c.. c.. ..b", "b..c"}, {"..a ..b ..c e.. d..", "c..d"}, {"..c ..b ..a d.. e..", "c..d"},
		{"..a a\x00..", "a..a\x00"}, {"..\x00", "\x00.."}, {"\x00..", "..\x00"}, {"..a aa..", "a..aa"},
		{"..c b..e d..f k..z g..h", "f..g"},
		{"..\x80 \x81..", "\x80..\x81"},
		{".." + long(24) + " y..", long(24) + "..y"},
	} {
		if got, ok := Gap(spans(x.l)); got != span(x.want) || !ok {
			t.Errorf("Gap(%q) = %q, %v", x.l, got, ok)
		}
	}
}

func TestNoGap(t *testing.T) { // P3.4, R2
	for _, s := range []string{"..", ".. ..", "..m m..", "m.. ..m", "m.. c..m ..c", "..b a..", "..a ..b b.. c..", "c..d .. a..b", "b..c ..", "..z y..", "..a a..aa aa..b b.."} {
		if got, ok := Gap(spans(s)); got != (api.Range{}) || ok {
			t.Errorf("Gap(%q) = %q, %v", s, got, ok)
		}
	}
}

func TestGapOfNothing(t *testing.T) { // P3.4, R4
	for _, l := range [][]api.Range{nil, {}} {
		if got, ok := Gap(l); got != (api.Range{}) || !ok {
			t.Errorf("Gap(%#v) = %q, %v", l, got, ok)
		}
	}
}

func TestRangesThatMayNotBeFillNoGap(t *testing.T) { // P3.4
	for _, x := range []struct{ l, want string }{
		{"b..a", ".."}, {"a..a", ".."}, {long(25) + "..", ".."}, {".." + long(25), ".."},
		{"..b c..b d..", "b..d"}, {"..b b..b d..", "b..d"}, {"..b c..c d..", "b..d"},
		{"..b c.." + long(25) + " d..", "b..d"},
		{".." + long(24) + " " + long(24) + ".." + long(25), long(24) + ".."},
		{".." + long(24) + " " + long(25) + "..", long(24) + ".."},
		{"..b b.." + long(25) + " z..", "b..z"},
	} {
		if got, ok := Gap(spans(x.l)); got != span(x.want) || !ok {
			t.Errorf("Gap(%q) = %q, %v", x.l, got, ok)
		}
	}
	if got, ok := Gap(spans("b..a .. a..a")); got != (api.Range{}) || ok {
		t.Errorf("with all that may be: %q, %v", got, ok)
	}
}

// slowGap is the gap as the chapter words it. The least text that none has is
// "", or one where a range ends.
func slowGap(l []api.Range) (api.Range, bool) {
	none := func(s string) bool {
		return !slices.ContainsFunc(l, func(r api.Range) bool { return mayBe(r) && isHad(r, s) })
	}
	gap, found := api.Range{}, none("")
	for _, r := range l {
		if mayBe(r) && r.High != "" && none(r.High) && (!found || ahead(r.High, gap.Low)) {
			gap.Low, found = r.High, true
		}
	}
	if !found {
		return api.Range{}, false
	}
	for _, r := range l {
		if mayBe(r) && ahead(gap.Low, r.Low) && (gap.High == "" || ahead(r.Low, gap.High)) {
			gap.High = r.Low
		}
	}
	return gap, true
}

func TestGapIsTheOneOfTheWords(t *testing.T) { // P3.4, P3.6, R6
	chance := rand.New(rand.NewSource(1))
	for _, size := range []int{1, 2} {
		list := everyRange(texts(size))
		all := texts(size + 1)
		for range 6000 {
			l := make([]api.Range, chance.Intn(9))
			for i := range l {
				l[i] = list[chance.Intn(len(list))]
			}
			holdGap(t, l, all)
		}
	}
}

// holdGap holds the gap of l, in each of some orders, against the words, and
// against what is had of the texts.
func holdGap(t *testing.T, l []api.Range, all []string) {
	t.Helper()
	want, is := slowGap(l)
	for turn := range len(l) + 1 {
		turned := slices.Concat(l[turn:], l[:turn])
		for range 2 {
			if got, ok := Gap(turned); got != want || ok != is {
				t.Fatalf("Gap(%q) = %q, %v; want %q, %v", turned, got, ok, want, is)
			}
			slices.Reverse(turned)
		}
	}
	if is && Check(want) != api.OK {
		t.Fatalf("Gap(%q): %q may not be", l, want)
	}
	for _, s := range all {
		had := slices.ContainsFunc(l, func(r api.Range) bool { return Check(r) == api.OK && Has(r, s) })
		if !had && (!is || ahead(s, want.Low)) {
			t.Fatalf("Gap(%q) = %q, %v, but none has %q", l, want, is, s)
		}
		if had && is && Has(want, s) {
			t.Fatalf("Gap(%q) = %q, but %q is had by one", l, want, s)
		}
	}
}

func TestGapsOneByOne(t *testing.T) { // P3.4, P3.6
	chance := rand.New(rand.NewSource(2))
	list := everyRange(texts(2))
	for range 500 {
		l := make([]api.Range, chance.Intn(7))
		for i := range l {
			l[i] = list[chance.Intn(len(list))]
		}
		// What fills a gap meets no range that may be, and leaves the next gap.
		for steps := 0; ; steps++ {
			gap, ok := Gap(l)
			if !ok {
				break
			}
			for _, r := range l {
				if Check(r) == api.OK && Meet(r, gap) {
					t.Fatalf("Gap(%q) = %q meets %q", l, gap, r)
				}
			}
			if l = append(l, gap); steps > 10 {
				t.Fatalf("gaps without end: %q", l)
			}
		}
	}
}

func TestGapOfManyRanges(t *testing.T) { // P3.4, R1
	const many = 200000
	l := make([]api.Range, many)
	key := func(i int) string { return fmt.Sprintf("%08d", i) }
	for i := range l {
		// The first comes last, so that going through the list once takes in one.
		l[many-1-i] = api.Range{Low: key(i), High: key(i + 1)}
	}
	if got, ok := Gap(l); got != (api.Range{High: key(0)}) || !ok {
		t.Errorf("Gap = %q, %v", got, ok)
	}
	l[many-1].Low = ""
	if got, ok := Gap(l); got != (api.Range{Low: key(many)}) || !ok {
		t.Errorf("with all from \"\" on: %q, %v", got, ok)
	}
	l[0].High = ""
	if got, ok := Gap(l); got != (api.Range{}) || ok {
		t.Errorf("with all: %q, %v", got, ok)
	}
	l[many/2] = api.Range{}
	l[many/2].High = "0"
	if got, ok := Gap(l); got != (api.Range{Low: key(many/2 - 1), High: key(many / 2)}) || !ok {
		t.Errorf("without one: %q, %v", got, ok)
	}
}

func FuzzWhatAGapHasNoRangeHas(f *testing.F) { // P3.2, P3.4, P3.6, R1, R6
	f.Add("", "")
	f.Add("c..d|..b|a..c", "d")
	f.Add("b..a|..|a..a", "a")
	f.Add(".."+long(24)+"|"+long(25)+"..", long(33))
	f.Fuzz(func(t *testing.T, s, key string) {
		var l []api.Range
		for word := range strings.SplitSeq(s, "|") {
			l = append(l, span(word))
		}
		all := []string{"", key, key + "\x00"}
		for _, r := range l {
			all = append(all, r.Low, r.High, r.Low+"\x00", r.High+"\x00")
			if got := Has(r, key); got != isHad(r, key) {
				t.Fatalf("Has(%q, %q) = %v", r, key, got)
			}
			if left, right, e := Split(r, key); e == api.OK && (Meet(left, right) || Has(left, key) || !Has(right, key)) {
				t.Fatalf("Split(%q, %q) = %q, %q", r, key, left, right)
			}
		}
		holdGap(t, l, all)
	})
}

func TestCmpOfKnownCells(t *testing.T) { // P3.5
	for _, x := range []struct {
		a, b api.Cell
		want int
	}{
		{api.Cell{Row: "a", Col: "x", Version: 2}, api.Cell{Row: "a", Col: "x", Version: 1}, -1},
		{api.Cell{Row: "a", Col: "x"}, api.Cell{Row: "a", Col: "y"}, -1},
		{api.Cell{Row: "b"}, api.Cell{Row: "a", Col: "z"}, 1},
		{api.Cell{}, api.Cell{}, 0},
		{api.Cell{}, api.Cell{Col: "x"}, -1},
		{api.Cell{Col: "\xff"}, api.Cell{Row: "\x00"}, -1},
		{api.Cell{Row: "a", Col: "b"}, api.Cell{Row: "ab"}, -1},
		{api.Cell{Row: "ab"}, api.Cell{Row: "a", Col: "b"}, 1},
		{api.Cell{Row: "a", Col: "x", Version: 1}, api.Cell{Row: "a", Col: "xx", Version: 9}, -1},
		{api.Cell{Row: "\x7f"}, api.Cell{Row: "\x80"}, -1},
		{api.Cell{Row: "r", Col: "x", Version: math.MaxUint64}, api.Cell{Row: "r", Col: "x"}, -1},
		{api.Cell{Row: "r", Col: "x", Version: 1<<63 + 1}, api.Cell{Row: "r", Col: "x", Version: 1}, -1},
		{api.Cell{Row: "r", Col: "x", Version: math.MaxUint64}, api.Cell{Row: "r", Col: "x", Version: math.MaxUint64 - 1}, -1},
		{api.Cell{Row: long(40), Col: long(40)}, api.Cell{Row: long(40), Col: long(41)}, -1},
	} {
		if got := Cmp(x.a, x.b); got != x.want {
			t.Errorf("Cmp(%#v, %#v) = %d", x.a, x.b, got)
		}
		if got := Cmp(x.b, x.a); got != -x.want {
			t.Errorf("Cmp(%#v, %#v) = %d", x.b, x.a, got)
		}
	}
}

func TestCmpCountsNothingElse(t *testing.T) { // P3.5
	for _, a := range []api.Cell{{}, {Row: "a", Col: "x", Version: 3}, {Row: "a", Version: math.MaxUint64}} {
		b := a
		b.Gone, b.Value = true, "v"
		if Cmp(a, b) != 0 || Cmp(b, a) != 0 || Cmp(b, b) != 0 {
			t.Errorf("%#v: Gone and Value count", a)
		}
	}
}

func TestCmpOfEveryTwoCells(t *testing.T) { // P3.5
	var l []api.Cell
	for _, row := range texts(2) {
		for _, col := range texts(1) {
			for _, version := range []uint64{0, 1, 2, 1 << 40, 1<<40 + 1, 1 << 63, math.MaxUint64} {
				l = append(l, api.Cell{Row: row, Col: col, Version: version})
			}
		}
	}
	// isAhead is the order as DOC.md words it.
	isAhead := func(a, b api.Cell) bool {
		if a.Row != b.Row {
			return ahead(a.Row, b.Row)
		}
		if a.Col != b.Col {
			return ahead(a.Col, b.Col)
		}
		return a.Version > b.Version
	}
	for _, a := range l {
		for _, b := range l {
			want := 0
			if isAhead(a, b) {
				want = -1
			} else if isAhead(b, a) {
				want = 1
			}
			if got := Cmp(a, b); got != want {
				t.Fatalf("Cmp(%#v, %#v) = %d, want %d", a, b, got, want)
			}
		}
	}
}

func TestCellsThatMayBe(t *testing.T) { // P3.5
	for i, c := range []api.Cell{
		{Row: "r", Col: "c", Version: 1, Value: "v"},
		{Row: "r", Version: 1},
		{Col: "c", Version: 1},
		{Col: long(16), Version: 1},
		{Row: long(24), Col: "c", Version: 1},
		{Row: long(25), Col: "c", Version: 1},
		{Row: long(32), Col: "c", Version: 1},
		{Row: "r", Col: long(16), Version: 1},
		{Row: "\x00", Col: "\xff", Version: 1},
		{Row: "r", Col: "c", Version: 1 << 40},
		{Row: "r", Col: "c", Version: 1, Gone: true},
		{Row: "r", Version: 1, Gone: true},
		{Row: "r", Col: "c", Version: 1, Value: long(257)},
		{Row: long(32), Col: long(16), Version: 1 << 40, Value: long(1 << 16)},
	} {
		if e := Cell(c); e != api.OK {
			t.Errorf("the one at %d: Cell = %d", i, e)
		}
	}
}

func TestCellsThatMayNotBe(t *testing.T) { // P3.5
	for i, c := range []api.Cell{
		{},
		{Version: 1},
		{Version: 1, Value: "v"},
		{Version: 1, Gone: true},
		{Row: "r", Col: "c"},
		{Col: "c"},
		{Row: long(33), Col: "c", Version: 1},
		{Row: long(1 << 16), Col: "c", Version: 1},
		{Row: "r", Col: long(17), Version: 1},
		{Col: long(17), Version: 1},
		{Row: "r", Col: "c", Version: 1<<40 + 1},
		{Row: "r", Col: "c", Version: 1 << 63},
		{Row: "r", Col: "c", Version: math.MaxUint64},
		{Row: "r", Col: "c", Version: 1, Value: long(1<<16 + 1)},
		{Row: "r", Col: "c", Version: 1, Gone: true, Value: "v"},
		{Row: "r", Col: "c", Version: 1, Gone: true, Value: long(1<<16 + 1)},
	} {
		if e := Cell(c); e != api.ErrArg {
			t.Errorf("the one at %d: Cell = %d", i, e)
		}
	}
}

func shares(a, b string) bool {
	begins := func(s string) uintptr { return uintptr(unsafe.Pointer(unsafe.StringData(s))) }
	return begins(a) < begins(b)+uintptr(len(b)) && begins(b) < begins(a)+uintptr(len(a))
}

func TestAnswersAreNewMemory(t *testing.T) { // R5
	low, key, high := long(20), long(21), long(22)
	left, right, e := Split(api.Range{Low: low, High: high}, key)
	if e != api.OK {
		t.Fatal("not split:", e)
	}
	gap, ok := Gap([]api.Range{{High: low}, {Low: high}})
	if !ok || gap != (api.Range{Low: low, High: high}) {
		t.Fatalf("the gap is %q, %v", gap, ok)
	}
	last, _ := Gap([]api.Range{{High: low}})
	for _, in := range []string{low, key, high} {
		for _, out := range []string{left.Low, left.High, right.Low, right.High, gap.Low, gap.High, last.Low} {
			if shares(in, out) {
				t.Errorf("what is answered shares its memory with what was handed in: %q, %q", in, out)
			}
		}
	}
	if shares(left.High, right.Low) {
		t.Error("the two share their memory")
	}
}

func TestRangesHandedInAreNotChanged(t *testing.T) { // R5
	whole := spans("m..z b..a ..c a..a c..m z.. behind..the its..end")
	kept := slices.Clone(whole)
	for n := range len(whole) {
		Gap(whole[:n])
		if !slices.Equal(whole, kept) {
			t.Fatalf("behind Gap of %d the ranges are %q", n, whole)
		}
	}
}
