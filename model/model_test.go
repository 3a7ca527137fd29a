package model

import (
	"fmt"
	"math"
	"math/rand"
	"slices"
	"strconv"
	"strings"
	"testing"
	"unsafe"

	"acreage/api"
)

func put(row, col, value string) api.Op {
	return api.Op{Kind: api.OpPut, Row: row, Col: col, Value: value}
}

func get(row, col string) api.Op { return api.Op{Kind: api.OpGet, Row: row, Col: col} }

func del(row, col string) api.Op { return api.Op{Kind: api.OpDel, Row: row, Col: col} }

func seek(row, col string) api.Op { return api.Op{Kind: api.OpSeek, Row: row, Col: col} }

// absent is an OpCheck that asks for a place that is not there.
func absent(row, col, value string) api.Op {
	return api.Op{Kind: api.OpCheck, Row: row, Col: col, Value: value}
}

// having is an OpCheck that asks for a place that is there, with that value.
func having(row, col, expect, value string) api.Op {
	return api.Op{Kind: api.OpCheck, Row: row, Col: col, Value: value, Has: true, Expect: expect}
}

// list reads cells that are parted by commas: row, column, version, and gone or
// a value (none: the empty one); - is an empty text.
func list(s string) (l []api.Cell) {
	for part := range strings.SplitSeq(s, ",") {
		words := strings.Fields(part)
		if len(words) == 0 {
			continue
		}
		for i, word := range words {
			if word == "-" {
				words[i] = ""
			}
		}
		version, err := strconv.ParseUint(words[2], 10, 64)
		if err != nil {
			panic(err)
		}
		c := api.Cell{Row: words[0], Col: words[1], Version: version}
		if len(words) > 3 && words[3] == "gone" {
			c.Gone = true
		} else if len(words) > 3 {
			c.Value = words[3]
		}
		l = append(l, c)
	}
	return l
}

func long(n int) string { return strings.Repeat("x", n) }

// slowMayBe says whether an operation may be, as DOC.md words it, kind by kind.
func slowMayBe(o api.Op) bool {
	user := 1 <= len(o.Row) && len(o.Row) <= 24
	stored := len(o.Row) <= 32
	column := 1 <= len(o.Col) && len(o.Col) <= 16
	value, noValue := len(o.Value) <= 256, o.Value == ""
	expect, noExpect := len(o.Expect) <= 256, o.Expect == ""
	switch o.Kind {
	case 1: // put
		return user && column && value && !o.Has && noExpect
	case 2, 3: // get, del
		return user && column && noValue && !o.Has && noExpect
	case 4: // check
		return user && column && value && (o.Has && expect || noExpect)
	case 5: // seek
		return stored && column && noValue && !o.Has && noExpect
	}
	return false
}

// slowNewest tells the newest of a place in a list: those of the place are
// gone through for the greatest Version, and then for the first one of it.
func slowNewest(l []api.Cell, row, col string) (api.Cell, bool) {
	var of []api.Cell
	var versions []uint64
	for _, c := range l {
		if c.Row == row && c.Col == col {
			of = append(of, c)
			versions = append(versions, c.Version)
		}
	}
	if len(of) == 0 {
		return api.Cell{}, false
	}
	greatest := slices.Max(versions)
	return of[slices.Index(versions, greatest)], true
}

// slowEffect is what the chapter's table says.
func slowEffect(o api.Op, l []api.Cell) (api.Result, []api.Cell) {
	if !slowMayBe(o) || o.Kind == 5 {
		return api.Result{Err: 2}, nil
	}
	count, _ := slowNewest(l, o.Row, "")
	c, there := slowNewest(l, o.Row, o.Col)
	there = there && !c.Gone
	change := func(found, gone bool) (api.Result, []api.Cell) {
		if count.Version > 1<<40-1 {
			return api.Result{Err: 3}, nil
		}
		n := count.Version + 1
		return api.Result{Found: found, Version: n}, []api.Cell{
			{Row: o.Row, Version: n},
			{Row: o.Row, Col: o.Col, Version: n, Gone: gone, Value: o.Value},
		}
	}
	switch o.Kind {
	case 1:
		return change(false, false)
	case 2:
		if there {
			return api.Result{Found: true, Value: c.Value, Version: c.Version}, nil
		}
	case 3:
		if there {
			return change(true, true)
		}
	case 4:
		if there == o.Has && (!there || c.Value == o.Expect) {
			return change(true, false)
		}
		if there {
			return api.Result{Value: c.Value, Version: c.Version}, nil
		}
	}
	return api.Result{}, nil
}

// slow is a model that keeps each cell that ever came, in the order in which
// they came, and goes through all of them at each call.
type slow struct{ all []api.Cell }

// places tells all rows, or columns of a row, that there are, rising.
func places(l []api.Cell, name func(c api.Cell) (string, bool)) []string {
	var names []string
	for _, c := range l {
		if s, is := name(c); is {
			names = append(names, s)
		}
	}
	slices.Sort(names)
	return slices.Compact(names)
}

func (s *slow) rows() []string {
	return places(s.all, func(c api.Cell) (string, bool) { return c.Row, true })
}

func (s *slow) do(o api.Op) api.Result {
	if o.Kind == 5 && slowMayBe(o) {
		for _, row := range s.rows() {
			if c, is := slowNewest(s.all, row, o.Col); row >= o.Row && is && !c.Gone {
				return api.Result{Found: true, Row: row, Value: c.Value, Version: c.Version}
			}
		}
		return api.Result{}
	}
	r, come := slowEffect(o, s.all)
	s.all = append(s.all, come...)
	return r
}

func (s *slow) cells() (l []api.Cell) {
	for _, row := range s.rows() {
		for _, col := range places(s.all, func(c api.Cell) (string, bool) { return c.Col, c.Row == row }) {
			c, _ := slowNewest(s.all, row, col)
			l = append(l, c)
		}
	}
	return l
}

func (s *slow) copy() *slow { return &slow{all: slices.Clone(s.all)} }

// count tells a row's count by all that came: how often it was changed.
func (s *slow) count(row string) (n uint64) {
	for _, c := range s.all {
		if c.Row == row && c.Col == "" {
			n++
		}
	}
	return n
}

func mustDo(t *testing.T, m *Model, o api.Op, want api.Result) {
	t.Helper()
	if r := m.Do(o); r != want {
		t.Fatalf("Do(%+v) = %+v, not %+v", o, r, want)
	}
}

func mustHave(t *testing.T, m *Model, want []api.Cell) {
	t.Helper()
	if l := m.Cells(); !slices.Equal(l, want) {
		t.Fatalf("the cells are %v, not %v", l, want)
	}
}

func mustEffect(t *testing.T, o api.Op, row []api.Cell, want api.Result, come []api.Cell) {
	t.Helper()
	r, l := Effect(o, row)
	if r != want || !slices.Equal(l, come) {
		t.Fatalf("Effect(%+v, %v) = %+v, %v, not %+v, %v", o, row, r, l, want, come)
	}
}

func found(value string, version uint64) api.Result {
	return api.Result{Found: true, Value: value, Version: version}
}

func at(row, value string, version uint64) api.Result {
	return api.Result{Found: true, Row: row, Value: value, Version: version}
}

func changed(n uint64) api.Result { return api.Result{Found: true, Version: n} }

func version(n uint64) api.Result { return api.Result{Version: n} }

func other(value string, version uint64) api.Result {
	return api.Result{Value: value, Version: version}
}

func fails(e api.Errno) api.Result { return api.Result{Err: e} }

var nothing = api.Result{}

func TestTheChaptersExamples(t *testing.T) { // P15.1, P15.3, and the fourth one of the whole
	m := New()
	mustDo(t, m, put("r", "x", "v"), version(1))
	mustDo(t, m, get("r", "x"), found("v", 1))
	mustDo(t, m, get("r", "y"), nothing)
	mustDo(t, m, put("r", "y", "w"), version(2))
	mustDo(t, m, get("r", "x"), found("v", 1))
	mustDo(t, m, having("r", "x", "v", "u"), changed(3))
	mustDo(t, m, having("r", "x", "v", "t"), other("u", 3))
	mustDo(t, m, absent("r", "z", "s"), changed(4))
	mustDo(t, m, del("r", "x"), changed(5))
	mustDo(t, m, del("r", "x"), nothing)
	mustDo(t, m, seek("", "x"), nothing)
	mustDo(t, m, seek("", "y"), at("r", "w", 2))
	mustDo(t, m, seek("s", "y"), nothing)
	mustHave(t, m, list("r - 5, r x 5 gone, r y 2 w, r z 4 s"))
	for _, o := range []api.Op{put("", "x", "v"), {Kind: api.OpGet, Row: "r", Col: "x", Value: "v"}, {Kind: api.OpCheck, Row: "r", Col: "x", Expect: "v"}} {
		if e := Check(o); e != api.ErrArg {
			t.Errorf("Check(%+v) = %d", o, e)
		}
	}
}

func TestOperationsThatMayBe(t *testing.T) { // P15.1
	for _, o := range []api.Op{
		put("r", "x", ""), put("r", "x", "v"), put("r", "x", long(256)), put(long(24), long(16), long(256)), put("\x00", "\x00", "\x00"), put("\xff", "\xff", "\xff"),
		get("r", "x"), get(long(24), long(16)), get("\x00", "\x00"),
		del("r", "x"), del(long(24), long(16)),
		absent("r", "x", ""), absent("r", "x", long(256)), absent(long(24), long(16), "v"),
		having("r", "x", "", ""), having("r", "x", "v", "w"), having(long(24), long(16), long(256), long(256)),
		seek("", "x"), seek("r", "x"), seek(long(24), "x"), seek(long(25), "x"), seek(long(32), long(16)),
	} {
		if e := Check(o); e != api.OK {
			t.Errorf("Check(%+v) = %d", o, e)
		}
	}
}

func TestOperationsThatMayNotBe(t *testing.T) { // P15.1 to P15.3, R2: a field that is too long is ErrArg too
	for _, o := range []api.Op{
		{}, {Row: "r", Col: "x"}, {Kind: -1, Row: "r", Col: "x"}, {Kind: 6, Row: "r", Col: "x"}, {Kind: math.MaxInt, Row: "r", Col: "x"}, {Kind: math.MinInt, Row: "r", Col: "x"}, {Kind: 1<<32 + 1, Row: "r", Col: "x"},
		put("", "x", "v"), put(long(25), "x", "v"), put(long(1<<16), "x", "v"), put("r", "", "v"), put("r", long(17), "v"), put("r", "x", long(257)), put("r", "x", long(1<<17)),
		get("", "x"), get(long(25), "x"), get("r", ""), get("r", long(17)),
		del("", "x"), del(long(25), "x"), del("r", ""), del("r", long(17)),
		absent("", "x", ""), absent(long(25), "x", ""), absent("r", "", ""), absent("r", long(17), ""), absent("r", "x", long(257)),
		having("", "x", "v", ""), having(long(25), "x", "", ""), having("r", "", "", ""), having("r", long(17), "", ""), having("r", "x", "", long(257)), having("r", "x", long(257), ""),
		{Kind: api.OpCheck, Row: "r", Col: "x", Expect: "v"}, {Kind: api.OpCheck, Row: "r", Col: "x", Value: "v", Expect: "v"}, {Kind: api.OpCheck, Row: "r", Col: "x", Expect: long(257)},
		seek(long(33), "x"), seek("r", ""), seek("", ""), seek("r", long(17)),
		{Kind: api.OpPut, Row: "r", Col: "x", Has: true}, {Kind: api.OpPut, Row: "r", Col: "x", Expect: "v"}, {Kind: api.OpPut, Row: "r", Col: "x", Has: true, Expect: "v"},
		{Kind: api.OpGet, Row: "r", Col: "x", Value: "v"}, {Kind: api.OpGet, Row: "r", Col: "x", Has: true}, {Kind: api.OpGet, Row: "r", Col: "x", Expect: "v"},
		{Kind: api.OpDel, Row: "r", Col: "x", Value: "v"}, {Kind: api.OpDel, Row: "r", Col: "x", Has: true}, {Kind: api.OpDel, Row: "r", Col: "x", Expect: "v"},
		{Kind: api.OpSeek, Row: "r", Col: "x", Value: "v"}, {Kind: api.OpSeek, Row: "r", Col: "x", Has: true}, {Kind: api.OpSeek, Row: "r", Col: "x", Expect: "v"},
	} {
		if e := Check(o); e != api.ErrArg {
			t.Errorf("Check(%+v) = %d", o, e)
		}
		// Of a place that is there, and of one whose count is at its end: ErrArg is told first.
		row := []api.Cell{{Row: o.Row, Version: api.MaxVersion}, {Row: o.Row, Col: o.Col, Version: 1, Value: "v"}}
		mustEffect(t, o, row, fails(api.ErrArg), nil)
		mustEffect(t, o, nil, fails(api.ErrArg), nil)
		m := New()
		mustDo(t, m, put("r", "x", "v"), version(1))
		mustDo(t, m, o, fails(api.ErrArg))
		mustHave(t, m, list("r - 1, r x 1 v"))
	}
}

// texts are some of each length, of any bytes.
func texts(lengths ...int) (l []string) {
	for _, n := range lengths {
		l = append(l, long(n))
		for _, fill := range []string{"\x00", "\xff", "世"} {
			if n > 0 {
				// Bytes are counted, not runes.
				l = append(l, strings.Repeat(fill, n)[:n])
			}
		}
	}
	return l
}

func TestCheckOfEveryKindAndField(t *testing.T) { // P15.1 to P15.3
	for kind := -2; kind <= 8; kind++ {
		for _, row := range texts(0, 1, 24, 25, 32, 33) {
			for _, col := range texts(0, 1, 16, 17) {
				for _, value := range []string{"", "\x00", long(256), long(257)} {
					for _, expect := range []string{"", "\x00", long(256), long(257)} {
						for _, has := range []bool{false, true} {
							checkOne(t, api.Op{Kind: kind, Row: row, Col: col, Value: value, Has: has, Expect: expect})
						}
					}
				}
			}
		}
	}
}

func checkOne(t *testing.T, o api.Op) {
	t.Helper()
	want := api.ErrArg
	if slowMayBe(o) {
		want = api.OK
	}
	if e := Check(o); e != want {
		t.Fatalf("Check(%+v) = %d", o, e)
	}
	if r, _ := Effect(o, nil); r.Err != want && o.Kind != api.OpSeek {
		t.Fatalf("Effect(%+v) = %+v", o, r)
	}
	if r := New().Do(o); r.Err != want {
		t.Fatalf("Do(%+v) = %+v", o, r)
	}
}

func TestEffectOfAnOpSeek(t *testing.T) { // P15.2
	for _, row := range []string{"", "r", long(24), long(25), long(32), long(33)} {
		for _, col := range []string{"", "x", long(17)} {
			mustEffect(t, seek(row, col), list("r - 4, r x 4 v"), fails(api.ErrArg), nil)
		}
	}
}

func TestEffectOfGet(t *testing.T) { // P15.2
	for _, x := range []struct {
		row  string
		want api.Result
	}{
		{"", nothing},
		{"r - 5", nothing},
		{"r x 1 v", found("v", 1)},
		{"r - 5, r x 3 v", found("v", 3)},
		{"r - 5, r x 3", found("", 3)},
		{"r - 5, r x 3 gone", nothing},
		{"r - 5, r y 3 v", nothing},
		{"r - 5, q x 3 v, s x 4 w", nothing},
		{"q x 9 old, r x 3 v, s x 9 w", found("v", 3)},
		{"r x 3 v, r x 4 w", found("w", 4)},
		{"r x 4 w, r x 3 v", found("w", 4)},
		{"r x 3 v, r x 4 gone", nothing},
		{"r x 4 gone, r x 3 v", nothing},
		{"r x 3 gone, r x 4 v", found("v", 4)},
		{"r x 4 v, r x 3 gone", found("v", 4)},
		{"r x 3 v, r x 4 w, r x 4 u, r x 2 t", found("w", 4)},
		{"r x 4 gone, r x 4 w", nothing},
		{"r x 4 w, r x 4 gone", found("w", 4)},
		{"rr x 1 v, r xx 1 v, - r 1 v, rx - 1 v", nothing},
		// Cells that may not be are looked at as any.
		{"r x 0 v", found("v", 0)},
		{"r x 0 gone, r x 0 v", nothing},
		{"r x 0 v, r x 1 w", found("w", 1)},
		{"r x 18446744073709551615 v, r x 1099511627776 w", found("v", math.MaxUint64)},
	} {
		mustEffect(t, get("r", "x"), list(x.row), x.want, nil)
	}
	// Gone ones that have a value, and values that no client puts.
	mustEffect(t, get("r", "x"), []api.Cell{{Row: "r", Col: "x", Version: 2, Gone: true, Value: "v"}}, nothing, nil)
	mustEffect(t, get("r", "x"), []api.Cell{{Row: "r", Col: "x", Version: 2, Value: long(1 << 17)}}, found(long(1<<17), 2), nil)
}

func TestEffectOfPut(t *testing.T) { // P15.2
	for _, x := range []struct {
		row string
		n   uint64
	}{
		{"", 1},
		{"r x 7 v", 1},
		{"r - 1", 2},
		{"r - 5, r x 3 v", 6},
		{"r - 5, r x 3 gone", 6},
		{"r - 5, r y 9 v", 6},
		{"r - 5, q - 9, s - 9, - - 9, rr - 9", 6},
		{"q - 9, s - 9", 1},
		{"r - 5, r - 7, r - 6", 8},
		{"r - 7, r - 5", 8},
		{"r - 7 gone, r - 5", 8},
		{"r - 5 gone", 6},
		{"r - 5 v", 6},
		{"r - 5, r - 5 gone", 6},
		{"r - 0", 1},
	} {
		for _, value := range []string{"", "w", long(256)} {
			come := []api.Cell{{Row: "r", Version: x.n}, {Row: "r", Col: "x", Version: x.n, Value: value}}
			mustEffect(t, put("r", "x", value), list(x.row), version(x.n), come)
		}
	}
	row, col, value := long(24), long(16), strings.Repeat("\xff", 256)
	mustEffect(t, put(row, col, value), nil, version(1), []api.Cell{{Row: row, Version: 1}, {Row: row, Col: col, Version: 1, Value: value}})
}

func TestEffectOfDel(t *testing.T) { // P15.2
	for _, x := range []struct {
		row, come string
		want      api.Result
	}{
		{"", "", nothing},
		{"r - 5", "", nothing},
		{"r - 5, r x 3 gone", "", nothing},
		{"r - 5, r y 3 v", "", nothing},
		{"r - 5, q x 3 v", "", nothing},
		{"r - 5, r x 3 v", "r - 6, r x 6 gone", changed(6)},
		{"r - 5, r x 3", "r - 6, r x 6 gone", changed(6)},
		{"r - 5, r x 3 v, r x 4 gone", "", nothing},
		{"r - 5, r x 3 gone, r x 4 v", "r - 6, r x 6 gone", changed(6)},
		{"r - 5, r x 4 v, r x 4 gone", "r - 6, r x 6 gone", changed(6)},
		{"r - 5, r x 4 gone, r x 4 v", "", nothing},
		{"r x 3 v", "r - 1, r x 1 gone", changed(1)},
		{"r x 3 v, q - 7", "r - 1, r x 1 gone", changed(1)},
	} {
		mustEffect(t, del("r", "x"), list(x.row), x.want, list(x.come))
	}
}

func TestEffectOfCheck(t *testing.T) { // P15.2
	const there, gone, none = "r - 5, r x 3 v", "r - 5, r x 3 gone", "r - 5, r y 3 v"
	const empty = "r - 5, r x 3"
	for _, x := range []struct {
		o         api.Op
		row, come string
		want      api.Result
	}{
		{having("r", "x", "v", "w"), there, "r - 6, r x 6 w", changed(6)},
		{having("r", "x", "v", ""), there, "r - 6, r x 6", changed(6)},
		{having("r", "x", "v", "v"), there, "r - 6, r x 6 v", changed(6)},
		{having("r", "x", "u", "w"), there, "", other("v", 3)},
		{having("r", "x", "", "w"), there, "", other("v", 3)},
		{having("r", "x", "vv", "w"), there, "", other("v", 3)},
		{having("r", "x", "w", "w"), there, "", other("v", 3)},
		{absent("r", "x", "w"), there, "", other("v", 3)},
		{absent("r", "x", "v"), there, "", other("v", 3)},
		{absent("r", "x", ""), there, "", other("v", 3)},

		{having("r", "x", "", "w"), empty, "r - 6, r x 6 w", changed(6)},
		{having("r", "x", "v", "w"), empty, "", other("", 3)},
		{absent("r", "x", "w"), empty, "", other("", 3)},

		{having("r", "x", "v", "w"), gone, "", nothing},
		{having("r", "x", "", "w"), gone, "", nothing},
		{absent("r", "x", "w"), gone, "r - 6, r x 6 w", changed(6)},
		{absent("r", "x", ""), gone, "r - 6, r x 6", changed(6)},

		{having("r", "x", "v", "w"), none, "", nothing},
		{having("r", "x", "", "w"), none, "", nothing},
		{absent("r", "x", "w"), none, "r - 6, r x 6 w", changed(6)},
		{absent("r", "x", "w"), "", "r - 1, r x 1 w", changed(1)},
		{having("r", "x", "", "w"), "", "", nothing},
		{absent("r", "x", "w"), "q - 9, q x 9 v", "r - 1, r x 1 w", changed(1)},

		{having("r", "x", "v", "w"), "r x 3 v, r x 4 u", "", other("u", 4)},
		{having("r", "x", "u", "w"), "r x 3 v, r x 4 u", "r - 1, r x 1 w", changed(1)},
		{having("r", "x", "v", "w"), "r x 4 u, r x 4 v", "", other("u", 4)},
		{having("r", "x", "v", "w"), "r x 4 v, r x 4 u", "r - 1, r x 1 w", changed(1)},
		{absent("r", "x", "w"), "r x 4 gone, r x 4 v", "r - 1, r x 1 w", changed(1)},
		{absent("r", "x", "w"), "r x 4 v, r x 4 gone", "", other("v", 4)},
		{absent("r", "x", "w"), "r x 0 v", "", other("v", 0)},
	} {
		mustEffect(t, x.o, list(x.row), x.want, list(x.come))
	}
	// A value that is gone counts as none, even if the cell has one.
	row := []api.Cell{{Row: "r", Col: "x", Version: 2, Gone: true, Value: "v"}}
	mustEffect(t, having("r", "x", "v", "w"), row, nothing, nil)
	mustEffect(t, absent("r", "x", "w"), row, changed(1), list("r - 1, r x 1 w"))
	// Each byte of as many as may be is held against what is there.
	row = []api.Cell{{Row: "r", Col: "x", Version: 2, Value: long(255) + "y"}}
	mustEffect(t, having("r", "x", long(256), "w"), row, other(long(255)+"y", 2), nil)
	mustEffect(t, having("r", "x", long(255)+"y", "w"), row, changed(1), list("r - 1, r x 1 w"))
}

func TestTheLastVersions(t *testing.T) { // P15.2: what changes nothing needs none
	const last = uint64(1) << 40
	for _, x := range []struct {
		count uint64
		may   bool
	}{{0, true}, {1, true}, {last - 2, true}, {last - 1, true}, {last, false}, {last + 1, false}, {1 << 63, false}, {math.MaxUint64 - 1, false}, {math.MaxUint64, false}} {
		row := []api.Cell{{Row: "r", Version: x.count}, {Row: "r", Col: "x", Version: 3, Value: "v"}, {Row: "r", Col: "z", Version: 3, Gone: true}}
		n := x.count + 1
		for _, o := range []api.Op{put("r", "x", "w"), put("r", "y", "w"), del("r", "x"), having("r", "x", "v", "w"), absent("r", "y", "w"), absent("r", "z", "w")} {
			if !x.may {
				mustEffect(t, o, row, fails(api.ErrLong), nil)
				continue
			}
			come := []api.Cell{{Row: "r", Version: n}, {Row: "r", Col: o.Col, Version: n, Gone: o.Kind == api.OpDel, Value: o.Value}}
			mustEffect(t, o, row, api.Result{Found: o.Kind != api.OpPut, Version: n}, come)
		}
		mustEffect(t, get("r", "x"), row, found("v", 3), nil)
		mustEffect(t, get("r", "z"), row, nothing, nil)
		mustEffect(t, del("r", "y"), row, nothing, nil)
		mustEffect(t, del("r", "z"), row, nothing, nil)
		mustEffect(t, having("r", "x", "u", "w"), row, other("v", 3), nil)
		mustEffect(t, having("r", "y", "", "w"), row, nothing, nil)
		mustEffect(t, absent("r", "x", "w"), row, other("v", 3), nil)
	}
	// The greatest one counts, wherever it stands, and of another row none.
	mustEffect(t, put("r", "x", "w"), list("r - 1099511627776, r - 4"), fails(api.ErrLong), nil)
	mustEffect(t, put("r", "x", "w"), list("r - 4, r - 1099511627776 gone"), fails(api.ErrLong), nil)
	mustEffect(t, put("r", "x", "w"), list("q - 1099511627776, r - 4, r x 1099511627776 v"), version(5), list("r - 5, r x 5 w"))
}

// anyCells makes a short list of cells, of few places and versions, so that
// many of them are of one place, and some of one version.
func anyCells(r *rand.Rand) (l []api.Cell) {
	for range r.Intn(8) {
		c := api.Cell{
			Row:     []string{"r", "r", "r", "q", "", "rx"}[r.Intn(6)],
			Col:     []string{"", "", "x", "x", "y"}[r.Intn(5)],
			Version: []uint64{0, 1, 2, 2, 3, 3, 1<<40 - 1, 1 << 40, math.MaxUint64}[r.Intn(9)],
			Gone:    r.Intn(3) == 0,
		}
		if !c.Gone || r.Intn(9) == 0 {
			c.Value = []string{"", "v", "w"}[r.Intn(3)]
		}
		l = append(l, c)
	}
	return l
}

func anyOp(r *rand.Rand, rows []string) api.Op {
	row, col := rows[r.Intn(len(rows))], []string{"x", "y", "x\x00"}[r.Intn(3)]
	value, expect := []string{"", "v", "w"}[r.Intn(3)], []string{"", "v", "w"}[r.Intn(3)]
	switch r.Intn(7) {
	case 0, 1:
		return put(row, col, value)
	case 2:
		return get(row, col)
	case 3:
		return del(row, col)
	case 4:
		return having(row, col, expect, value)
	case 5:
		return absent(row, col, value)
	}
	return seek(row, col)
}

func TestEffectOfManyLists(t *testing.T) { // P15.2, R5, R6
	r := rand.New(rand.NewSource(15))
	for range 200_000 {
		l := anyCells(r)
		was := slices.Clone(l)
		o := anyOp(r, []string{"r", "r", "r", "q", "rx"})
		want, come := slowEffect(o, l)
		mustEffect(t, o, l, want, come)
		mustEffect(t, o, l, want, come)
		if !slices.Equal(l, was) {
			t.Fatalf("the list %v is %v now", was, l)
		}
	}
}

func TestSeeks(t *testing.T) { // P15.3
	m := New()
	mustDo(t, m, seek("", "x"), nothing)
	for _, row := range []string{"m", "c", "\xff", "ca", "\x00", "k"} {
		mustDo(t, m, put(row, "x", "of "+row), version(1))
		mustDo(t, m, put(row, "y", "other"), version(2))
	}
	mustDo(t, m, put("a", "z", "v"), version(1))
	mustDo(t, m, put("zz", "z", ""), version(1))
	mustDo(t, m, del("k", "x"), changed(3))
	mustDo(t, m, put("m", "x", "new"), version(3))
	for _, x := range []struct {
		from, col string
		want      api.Result
	}{
		{"", "x", at("\x00", "of \x00", 1)},
		{"\x00", "x", at("\x00", "of \x00", 1)},
		{"\x00\x00", "x", at("c", "of c", 1)},
		{"a", "x", at("c", "of c", 1)},
		{"b\xff", "x", at("c", "of c", 1)},
		{"c", "x", at("c", "of c", 1)},
		{"c\x00", "x", at("ca", "of ca", 1)},
		{"ca", "x", at("ca", "of ca", 1)},
		// Over k, whose x is gone.
		{"ca\x00", "x", at("m", "new", 3)},
		{"k", "x", at("m", "new", 3)},
		{"m", "x", at("m", "new", 3)},
		{"m\x00", "x", at("\xff", "of \xff", 1)},
		{"\xff", "x", at("\xff", "of \xff", 1)},
		{"\xff\x00", "x", nothing},
		{strings.Repeat("\xff", 32), "x", nothing},
		{strings.Repeat("c", 32), "x", at("m", "new", 3)},
		{"ca\x00", "y", at("k", "other", 2)},
		{"", "z", at("a", "v", 1)},
		{"b", "z", at("zz", "", 1)},
		{"zz\x00", "z", nothing},
		{"", "w", nothing},
		{"", "xx", nothing},
		{"", strings.Repeat("x", 16), nothing},
	} {
		mustDo(t, m, seek(x.from, x.col), x.want)
	}
	was := m.Cells()
	mustDo(t, m, seek("", ""), fails(api.ErrArg))
	mustDo(t, m, seek(long(33), "x"), fails(api.ErrArg))
	mustHave(t, m, was)
	mustDo(t, m, put("k", "x", "again"), version(4))
	mustDo(t, m, seek("ca\x00", "x"), at("k", "again", 4))
}

func TestSeeksOfOneRowOfAllLengths(t *testing.T) { // P15.3: rows are told byte by byte
	for n := 1; n <= 24; n++ {
		m := New()
		row := strings.Repeat("\x80", n)
		mustDo(t, m, put(row, "x", "v"), version(1))
		for k := range 32 {
			want := at(row, "v", 1)
			if k > n {
				want = nothing
			}
			mustDo(t, m, seek(strings.Repeat("\x80", k), "x"), want)
		}
		mustDo(t, m, seek("\x7f"+long(31), "x"), at(row, "v", 1))
		mustDo(t, m, seek("\x81", "x"), nothing)
	}
}

func TestCellsAreInOrder(t *testing.T) { // P15.3, R7
	m := New()
	mustHave(t, m, nil)
	for _, o := range []api.Op{put("b", "y", "1"), put("b", "x", "2"), put("a", "z", "3"), put("ab", "x", "4"), put("\xff", "x", "5"), put("b", "xx", "6"), put("b", "\xff", "7"), put("a", "\x00", "8")} {
		m.Do(o)
	}
	mustHave(t, m, list("a - 2, a \x00 2 8, a z 1 3, ab - 1, ab x 1 4, b - 4, b x 2 2, b xx 3 6, b y 1 1, b \xff 4 7, \xff - 1, \xff x 1 5"))
	// Of each place one alone, and Gone ones too.
	mustDo(t, m, put("ab", "x", "new"), version(2))
	mustDo(t, m, del("\xff", "x"), changed(2))
	mustDo(t, m, having("a", "z", "3", "checked"), changed(3))
	mustHave(t, m, list("a - 3, a \x00 2 8, a z 3 checked, ab - 2, ab x 2 new, b - 4, b x 2 2, b xx 3 6, b y 1 1, b \xff 4 7, \xff - 2, \xff x 2 gone"))
	mustDo(t, m, absent("\xff", "x", "back"), changed(3))
	mustDo(t, m, get("\xff", "x"), found("back", 3))
	if l := m.Cells(); l[len(l)-1] != (api.Cell{Row: "\xff", Col: "x", Version: 3, Value: "back"}) {
		t.Errorf("the last one is %v", l[len(l)-1])
	}
}

func TestWhatChangesNothing(t *testing.T) { // P15.2, P15.3
	m := New()
	for _, o := range []api.Op{put("r", "x", "v"), put("r", "y", "w"), del("r", "y"), put("s", "x", "u")} {
		m.Do(o)
	}
	was := m.Cells()
	for _, o := range []api.Op{
		get("r", "x"), get("r", "y"), get("r", "z"), get("q", "x"), del("r", "y"), del("r", "z"), del("q", "x"),
		having("r", "x", "w", "t"), having("r", "y", "w", "t"), having("r", "z", "", "t"), having("q", "x", "", "t"), absent("r", "x", "t"),
		seek("", "x"), seek("", "y"), seek("t", "x"), {}, put("", "x", ""), put("r", "x", long(257)), seek(long(33), "x"),
	} {
		m.Do(o)
		mustHave(t, m, was)
	}
}

func TestModelsAreOfTheirOwn(t *testing.T) { // P15.3, R6
	a, b := New(), New()
	mustDo(t, a, put("r", "x", "v"), version(1))
	mustHave(t, b, nil)
	mustDo(t, b, get("r", "x"), nothing)
	mustDo(t, b, seek("", "x"), nothing)
	mustDo(t, b, put("r", "x", "w"), version(1))
	mustDo(t, a, get("r", "x"), found("v", 1))
}

func TestCopiesGoTheirOwnWay(t *testing.T) { // P15.3
	m := New()
	c := m.Copy()
	mustHave(t, c, nil)
	mustDo(t, c, put("r", "x", "c"), version(1))
	mustHave(t, m, nil)
	mustDo(t, m, put("r", "x", "v"), version(1))
	mustDo(t, m, put("r", "y", "w"), version(2))
	mustDo(t, m, del("r", "y"), changed(3))
	mustHave(t, c, list("r - 1, r x 1 c"))

	was := list("r - 3, r x 1 v, r y 3 gone")
	c = m.Copy()
	cc := c.Copy()
	mustHave(t, c, was)
	mustHave(t, cc, was)
	mustDo(t, c, del("r", "x"), changed(4))
	mustDo(t, c, put("a", "x", "new"), version(1))
	mustHave(t, m, was)
	mustHave(t, cc, was)
	mustDo(t, m, seek("", "x"), at("r", "v", 1))
	mustDo(t, c, seek("", "x"), at("a", "new", 1))
	mustDo(t, m, absent("r", "y", "u"), changed(4))
	mustDo(t, m, put("b", "x", "new"), version(1))
	mustHave(t, c, list("a - 1, a x 1 new, r - 4, r x 4 gone, r y 3 gone"))
	mustHave(t, cc, was)
	mustDo(t, cc, having("r", "x", "v", "t"), changed(4))
	mustHave(t, m, list("b - 1, b x 1 new, r - 4, r x 1 v, r y 4 u"))
	mustHave(t, c, list("a - 1, a x 1 new, r - 4, r x 4 gone, r y 3 gone"))
}

func TestAModelWhoseCountIsAtItsEnd(t *testing.T) { // P15.2, P15.3: such a one is laid here, as no one can wait for it
	m := New()
	for _, c := range list("r - 1099511627775, r x 3 v, s - 4, s x 4 w") {
		m.put(c)
	}
	mustDo(t, m, put("r", "y", "last"), version(1<<40))
	was := list("r - 1099511627776, r x 3 v, r y 1099511627776 last, s - 4, s x 4 w")
	mustHave(t, m, was)
	for _, o := range []api.Op{put("r", "x", "w"), put("r", "z", "w"), del("r", "x"), having("r", "x", "v", "w"), absent("r", "z", "w")} {
		mustDo(t, m, o, fails(api.ErrLong))
		mustHave(t, m, was)
		mustDo(t, m.Copy(), o, fails(api.ErrLong))
	}
	mustDo(t, m, get("r", "x"), found("v", 3))
	mustDo(t, m, del("r", "z"), nothing)
	mustDo(t, m, having("r", "x", "u", "w"), other("v", 3))
	mustDo(t, m, absent("r", "x", "w"), other("v", 3))
	mustDo(t, m, seek("", "y"), at("r", "last", 1<<40))
	mustHave(t, m, was)
	mustDo(t, m, put("s", "x", "new"), version(5))
}

func TestAModelThatIsNone(t *testing.T) { // P15.3, R1, R3: ErrNil is told ahead of ErrArg
	for _, m := range []*Model{nil, {}, new(Model)} {
		for _, o := range []api.Op{{}, {Kind: -1}, put("r", "x", "v"), put("", "x", "v"), get("r", "x"), del("r", "x"), absent("r", "x", "v"), having("r", "x", "v", "w"), seek("", "x"), seek("", ""), seek(long(33), "x")} {
			mustDo(t, m, o, fails(api.ErrNil))
		}
		if l := m.Cells(); len(l) != 0 {
			t.Errorf("the cells are %v", l)
		}
		if m.Copy() != nil {
			t.Error("a copy of none")
		}
	}
}

// own makes a text that lies upon bytes of its own, which spoil may write over.
func own(s string) string { return strings.Clone(s) }

func ownOp(o api.Op) api.Op {
	o.Row, o.Col, o.Value, o.Expect = own(o.Row), own(o.Col), own(o.Value), own(o.Expect)
	return o
}

func ownCells(l []api.Cell) (mine []api.Cell) {
	for _, c := range l {
		c.Row, c.Col, c.Value = own(c.Row), own(c.Col), own(c.Value)
		mine = append(mine, c)
	}
	return mine
}

func spoil(texts ...string) {
	for _, s := range texts {
		b := unsafe.Slice(unsafe.StringData(s), len(s))
		for i := range b {
			b[i] = '!'
		}
	}
}

func spoilOp(o api.Op) { spoil(o.Row, o.Col, o.Value, o.Expect) }

func spoilResult(r api.Result) { spoil(r.Row, r.Value) }

func spoilCells(l []api.Cell) {
	for i, c := range l {
		spoil(c.Row, c.Col, c.Value)
		l[i] = api.Cell{Row: "another", Version: 99}
	}
	clear(l[:cap(l)])
}

func TestEffectAnswersNewMemory(t *testing.T) { // R5
	row := list("rr - 5, rr xx 3 vv, rr xx 2 ww, qq xx 9 uu")
	for _, o := range []api.Op{put("rr", "xx", "new"), get("rr", "xx"), del("rr", "xx"), having("rr", "xx", "vv", "new"), having("rr", "xx", "uu", "new"), absent("rr", "xx", "new"), absent("rr", "yy", "new"), seek("rr", "xx"), put("", "xx", "new")} {
		want, come := slowEffect(o, row)
		given, mine := ownOp(o), ownCells(row)
		r, l := Effect(given, mine)
		// What was handed in changes behind the call.
		spoilOp(given)
		spoilCells(mine)
		if r != want || !slices.Equal(l, come) {
			t.Errorf("%+v: %+v, %v, not %+v, %v, once what was handed in has changed", o, r, l, want, come)
		}
		given, mine = ownOp(o), ownCells(row)
		r, l = Effect(given, mine)
		spoilResult(r)
		if !slices.Equal(l, come) {
			t.Errorf("%+v: the cells %v share with the result", o, l)
		}
		r, l = Effect(given, mine)
		for i := range l {
			one := slices.Clone(l)
			spoil(one[i].Row, one[i].Col, one[i].Value)
			for k, c := range one {
				if k > i && c != come[k] {
					t.Errorf("%+v: the cells %d and %d share", o, i, k)
				}
			}
		}
		if r != want {
			t.Errorf("%+v: the result shares with the cells", o)
		}
		if given != o || !slices.Equal(mine, row) {
			t.Errorf("%+v: what is answered shares with what was handed in", o)
		}
	}
}

func TestEffectLeavesTheListAndTheRoomBehindIt(t *testing.T) { // R5
	all := list("r - 5, r x 3 v, r x 4 w, s - 1, s x 1 u")
	for n := range len(all) + 1 {
		for _, o := range []api.Op{put("r", "x", "new"), get("r", "x"), del("r", "x"), having("r", "x", "w", "new"), absent("r", "y", "new"), del("s", "x")} {
			mine := slices.Clone(all)
			r, l := Effect(o, mine[:n])
			want, come := slowEffect(o, all[:n])
			if r != want || !slices.Equal(l, come) {
				t.Errorf("Effect(%+v, %v) = %+v, %v", o, mine[:n], r, l)
			}
			// What is put behind what was answered is not put into the list.
			l = append(l, api.Cell{Row: "more"})
			if l[0].Row == "" || !slices.Equal(mine, all) {
				t.Errorf("%+v: the list %v is %v now", o, all, mine)
			}
		}
	}
}

func TestModelsKeepNoMemoryOfOthers(t *testing.T) { // R5
	m := New()
	s := &slow{}
	do := func(o api.Op) {
		t.Helper()
		given := ownOp(o)
		r := m.Do(given)
		if given != o {
			t.Fatalf("Do changed %+v to %+v", o, given)
		}
		spoilOp(given)
		if want := s.do(o); r != want {
			t.Fatalf("Do(%+v) = %+v, not %+v", o, r, want)
		}
		mustHave(t, m, s.cells())
		spoilResult(r)
		mustHave(t, m, s.cells())
		spoilCells(m.Cells())
		mustHave(t, m, s.cells())
	}
	for range 2 {
		for _, o := range []api.Op{
			put("rr", "xx", "vv"), put("rr", "yy", "ww"), get("rr", "xx"), seek("", "xx"), having("rr", "xx", "vv", "uu"), having("rr", "xx", "no", "uu"),
			absent("rr", "xx", "tt"), absent("rr", "zz", "tt"), del("rr", "yy"), get("rr", "yy"), put("qq", "xx", "ss"), seek("qq", "xx"), seek("q", "zz"), del("qq", "xx"), seek("qq", "xx"),
		} {
			do(o)
		}
	}
}

func TestCopiesShareNothing(t *testing.T) { // R5
	m := New()
	for _, o := range []api.Op{put("rr", "xx", "vv"), put("rr", "yy", "ww"), del("rr", "yy"), put("qq", "xx", "uu")} {
		m.Do(o)
	}
	was := list("qq - 1, qq xx 1 uu, rr - 3, rr xx 1 vv, rr yy 3 gone")
	c := m.Copy()
	for p, cell := range c.cells {
		spoil(p.row, p.col, cell.Row, cell.Col, cell.Value)
	}
	clear(c.cells)
	mustHave(t, m, was)
	mustDo(t, m, get("rr", "xx"), found("vv", 1))
	mustDo(t, m, seek("", "xx"), at("qq", "uu", 1))
}

// pair is a model, and one as the chapter words it, that are done the same.
type pair struct {
	m *Model
	s *slow
}

func newPair() pair { return pair{m: New(), s: &slow{}} }

func (p pair) copy() pair { return pair{m: p.m.Copy(), s: p.s.copy()} }

func (p pair) do(t *testing.T, o api.Op) api.Result {
	t.Helper()
	got, want := p.m.Do(o), p.s.do(o)
	if got != want {
		t.Fatalf("Do(%+v) = %+v, not %+v; the cells were %v", o, got, want, p.s.cells())
	}
	return got
}

func (p pair) same(t *testing.T) {
	t.Helper()
	mustHave(t, p.m, p.s.cells())
}

// fewOps are operations of two rows and two columns, that meet often.
func fewOps() []api.Op {
	return []api.Op{
		put("a", "x", "v"), put("a", "x", ""), put("a", "y", "v"), put("b", "x", "w"),
		get("a", "x"), del("a", "x"), del("b", "x"), del("a", "y"),
		having("a", "x", "v", "w"), having("a", "x", "", "v"), having("b", "x", "w", "v"), absent("a", "x", "w"), absent("b", "x", ""),
		seek("", "x"), seek("a\x00", "x"), seek("a", "y"),
	}
}

func TestEveryFewOperations(t *testing.T) { // P15.2, P15.3: each row of four
	few := fewOps()
	var goOn func(p pair, left int)
	goOn = func(p pair, left int) {
		p.same(t)
		if left == 0 {
			return
		}
		for _, o := range few {
			// Each goes on by a copy of its own, and none of them is told by another.
			next := p.copy()
			next.do(t, o)
			goOn(next, left-1)
		}
		p.same(t)
	}
	goOn(newPair(), 4)
}

// someRows are rows of which some are the beginning of others.
func someRows() []string {
	return []string{"a", "aa", "a\x00", "b", "\xff", long(24)}
}

// whatFollows holds one operation, and what it left, to P15.4.
func whatFollows(t *testing.T, p pair, o api.Op) {
	t.Helper()
	counts := map[string]uint64{}
	for _, row := range someRows() {
		counts[row] = p.s.count(row)
	}
	was := p.m.Cells()
	r := p.do(t, o)
	now := p.m.Cells()
	change := !slices.Equal(was, now)
	says := r.Err == api.OK && (o.Kind == api.OpPut || (o.Kind == api.OpDel || o.Kind == api.OpCheck) && r.Found)
	if change != says {
		t.Fatalf("%+v answered %+v, and of %v came %v", o, r, was, now)
	}
	if change {
		counts[o.Row]++
		if r.Version != counts[o.Row] {
			t.Fatalf("%+v answered %+v, and the row was changed %d times", o, r, counts[o.Row])
		}
		want := nothing
		if o.Kind != api.OpDel {
			want = found(o.Value, r.Version)
		}
		mustDo(t, p.m, get(o.Row, o.Col), want)
	}
	for _, c := range now {
		if c.Col == "" && c != (api.Cell{Row: c.Row, Version: counts[c.Row]}) {
			t.Fatalf("%+v: the count cell is %v, of %d changes", o, c, counts[c.Row])
		}
		if c.Version > counts[c.Row] {
			t.Fatalf("%+v: %v is of no change, of %d", o, c, counts[c.Row])
		}
	}
}

// leastFound holds what OpSeeks answer against OpGets of all rows.
func leastFound(t *testing.T, m *Model, rows []string) {
	t.Helper()
	rows = slices.Sorted(slices.Values(rows))
	for _, col := range []string{"x", "y", "z"} {
		for _, from := range rows {
			for _, from := range []string{"", from, from + "\x00"} {
				want := nothing
				for _, row := range slices.Backward(rows) {
					if r := m.Do(get(row, col)); r.Found && row >= from {
						want = at(row, r.Value, r.Version)
					}
				}
				mustDo(t, m, seek(from, col), want)
			}
		}
	}
}

func TestWhatFollows(t *testing.T) { // P15.4
	r := rand.New(rand.NewSource(4))
	for range 60 {
		p := newPair()
		for range 80 {
			o := anyOp(r, someRows())
			whatFollows(t, p, o)
			if r.Intn(8) == 0 {
				leastFound(t, p.m, someRows())
			}
			if r.Intn(20) == 0 {
				p = p.copy()
			}
		}
	}
}

func TestOneRowsChangesAreItsOwn(t *testing.T) { // P15.4: what is done to a row hangs on nothing that is done to others
	r := rand.New(rand.NewSource(5))
	for range 200 {
		together := New()
		apart := map[string]*Model{}
		for _, row := range someRows() {
			apart[row] = New()
		}
		for range 60 {
			o := anyOp(r, someRows())
			if o.Kind == api.OpSeek {
				continue
			}
			mustDo(t, together, o, apart[o.Row].Do(o))
		}
		var all []api.Cell
		for _, row := range slices.Sorted(slices.Values(someRows())) {
			all = append(all, apart[row].Cells()...)
		}
		mustHave(t, together, all)
	}
}

func TestTwoModelsDoneTheSameAreTheSame(t *testing.T) { // R6: a map has another order each time
	for seed := range int64(20) {
		a, b := New(), New()
		one, two := rand.New(rand.NewSource(seed)), rand.New(rand.NewSource(seed))
		for k := range 300 {
			row := fmt.Sprintf("row %02d", (k*37)%100)
			mustDo(t, a, put(row, "x", "v"), b.Do(put(row, "x", "v")))
			mustDo(t, a, anyOp(one, someRows()), b.Do(anyOp(two, someRows())))
			mustDo(t, a, seek(row, "x"), at(row, "v", b.Do(get(row, "x")).Version))
			mustDo(t, a, seek(row+"\x00", "x"), b.Do(seek(row+"\x00", "x")))
		}
		mustHave(t, a, b.Cells())
	}
}

// run does to two models what bytes say, and holds them to the words.
func run(t *testing.T, b []byte) {
	next := func(n int) int {
		if len(b) == 0 {
			return 0
		}
		v := int(b[0])
		b = b[1:]
		return v % n
	}
	rows := append(someRows(), "", long(25), long(32), long(33))
	cols := []string{"x", "y", "\xff", long(16), "", long(17)}
	values := []string{"", "v", "w", long(256), long(257)}
	pairs := []pair{newPair(), newPair()}
	for len(b) > 0 {
		which := next(3)
		if which == 2 {
			// One goes on as a copy of the other.
			which = next(2)
			pairs[which] = pairs[1-which].copy()
			continue
		}
		o := api.Op{Kind: next(7), Row: rows[next(len(rows))], Col: cols[next(len(cols))]}
		// Most kinds have nothing more, so that most operations may be.
		if o.Kind == api.OpPut || o.Kind == api.OpCheck || next(8) == 7 {
			o.Value = values[next(len(values))]
		}
		if o.Kind == api.OpCheck || next(8) == 7 {
			o.Has, o.Expect = next(2) == 1, values[next(len(values))]
		}
		pairs[which].do(t, o)
		pairs[0].same(t)
		pairs[1].same(t)
	}
}

func TestManyWaysOfBytes(t *testing.T) { // P15.1 to P15.4, R1
	r := rand.New(rand.NewSource(7))
	for range 600 {
		b := make([]byte, r.Intn(400))
		for i := range b {
			b[i] = byte(r.Intn(256))
		}
		run(t, b)
	}
}

func FuzzModelsDoAsTheWordsSay(f *testing.F) { // P15.1 to P15.4, R1
	f.Add([]byte{0, 1, 0, 0, 1, 0, 0, 2, 0, 0, 0, 0, 2, 1, 1, 4, 0, 0, 1, 1, 2})
	f.Add([]byte("a few bytes that say what is done to two models"))
	f.Fuzz(func(t *testing.T, b []byte) { run(t, b[:min(len(b), 400)]) })
}

func TestManyRowsInTime(t *testing.T) { // P15.2, P15.3, R1
	const many = 100_000
	r := rand.New(rand.NewSource(12))
	m := New()
	row := func(k int) string { return string([]byte{byte(k >> 16), byte(k >> 8), byte(k)}) }
	for _, k := range r.Perm(many) {
		mustDo(t, m, put(row(k), "x", "v"), version(1))
	}
	c := m.Copy()
	for _, k := range r.Perm(many) {
		mustDo(t, m, having(row(k), "x", "v", "w"), changed(2))
		mustDo(t, m, get(row(k), "x"), found("w", 2))
	}
	for k, c := range c.Cells() {
		want := api.Cell{Row: row(k / 2), Version: 1}
		if k%2 == 1 {
			want.Col, want.Value = "x", "v"
		}
		if c != want {
			t.Fatalf("the cell %d is %v", k, c)
		}
	}
	mustDo(t, m, seek(row(many/2)+"\x00", "x"), at(row(many/2+1), "w", 2))
	// A list of many versions of one place, too.
	var l []api.Cell
	for _, k := range r.Perm(many) {
		l = append(l, api.Cell{Row: "r", Version: uint64(k)}, api.Cell{Row: "r", Col: "x", Version: uint64(k), Value: strconv.Itoa(k)})
	}
	mustEffect(t, get("r", "x"), l, found(strconv.Itoa(many-1), many-1), nil)
	mustEffect(t, put("r", "x", "v"), l, version(many), []api.Cell{{Row: "r", Version: many}, {Row: "r", Col: "x", Version: many, Value: "v"}})
}
