package manifest

import (
	"encoding/binary"
	"fmt"
	"hash/crc32"
	"math"
	"math/rand"
	"slices"
	"strconv"
	"strings"
	"testing"
	"unsafe"

	"acreage/api"
	"acreage/disk"
)

// levels reads a state's levels: those parted by |, a level's files by commas,
// of each file its Id, Low, High and Cells; - is an empty text.
func levels(text string) [][]api.File {
	var l [][]api.File
	for part := range strings.SplitSeq(text, "|") {
		var files []api.File
		for one := range strings.SplitSeq(part, ",") {
			w := strings.Fields(one)
			if len(w) == 0 {
				continue
			}
			id, _ := strconv.ParseUint(w[0], 10, 64)
			cells, _ := strconv.Atoi(w[3])
			files = append(files, api.File{Id: id, Low: strings.Trim(w[1], "-"), High: strings.Trim(w[2], "-"), Cells: cells})
		}
		l = append(l, files)
	}
	return l
}

func state(next, log uint64, text string) api.Files {
	return api.Files{Next: next, Log: log, Levels: levels(text)}
}

// mayBeSlow goes through a state as the chapter words it, each file beside all others.
func mayBeSlow(s api.Files) bool {
	if s.Next < 1 || s.Next > 1099511627776 || s.Log < 1 || s.Log > 1099511627776 || len(s.Levels) > 7 {
		return false
	}
	var all []api.File
	for _, l := range s.Levels {
		all = append(all, l...)
	}
	if len(all) > 1024 {
		return false
	}
	for i, f := range all {
		if f.Id < 1 || f.Id >= s.Next || len(f.Low) > 32 || len(f.High) > 32 || strings.Compare(f.Low, f.High) > 0 || f.Cells < 1 || f.Cells > 1073741824 {
			return false
		}
		for j, g := range all {
			if i != j && f.Id == g.Id {
				return false
			}
		}
	}
	for n, l := range s.Levels {
		for i := range l {
			if n > 0 && i > 0 && strings.Compare(l[i-1].High, l[i].Low) >= 0 {
				return false
			}
		}
	}
	return true
}

func laidText(b []byte, s string) []byte {
	return append(binary.AppendUvarint(b, uint64(len(s))), s...)
}

// laidBody are a state's bytes as the chapter words them, of one that may not be too.
func laidBody(s api.Files) string {
	b := binary.AppendUvarint(binary.AppendUvarint(nil, s.Next), s.Log)
	b = binary.AppendUvarint(b, uint64(len(s.Levels)))
	for _, l := range s.Levels {
		b = binary.AppendUvarint(b, uint64(len(l)))
		for _, f := range l {
			b = laidText(laidText(binary.AppendUvarint(b, f.Id), f.Low), f.High)
			b = binary.AppendUvarint(b, uint64(f.Cells))
		}
	}
	return string(b)
}

// framed is a frame as chapter 2 words it, of however many bytes.
func framed(body string) string {
	b := binary.BigEndian.AppendUint32(nil, uint32(len(body)))
	sum := crc32.ChecksumIEEE([]byte(string(b) + body))
	return string(binary.LittleEndian.AppendUint32(b, sum)) + body
}

func laid(s api.Files) string { return framed(laidBody(s)) }

// slowDecode reads numbers in whatever form, and takes only what would be laid just so.
func slowDecode(b string) (api.Files, bool) {
	if len(b) < 8 {
		return api.Files{}, false
	}
	rest, ok := []byte(b[8:]), true
	number := func() uint64 {
		v, n := binary.Uvarint(rest)
		if n <= 0 {
			ok, n = false, 0
		}
		rest = rest[n:]
		return v
	}
	text := func() string {
		n := number()
		if n > uint64(len(rest)) {
			ok = false
			return ""
		}
		s := string(rest[:n])
		rest = rest[n:]
		return s
	}
	s := api.Files{Next: number(), Log: number()}
	for count := number(); ok && count > 0; count-- {
		var l []api.File
		for files := number(); ok && files > 0; files-- {
			l = append(l, api.File{Id: number(), Low: text(), High: text(), Cells: int(number())})
		}
		s.Levels = append(s.Levels, l)
	}
	if !ok || len(rest) > 0 || !mayBeSlow(s) || laid(s) != b {
		return api.Files{}, false
	}
	return s, true
}

// same takes nil and empty lists for alike.
func same(a, b api.Files) bool {
	return a.Next == b.Next && a.Log == b.Log && slices.EqualFunc(a.Levels, b.Levels, slices.Equal[[]api.File])
}

func isZero(s api.Files) bool { return s.Next == 0 && s.Log == 0 && len(s.Levels) == 0 }

// short keeps what a failure tells readable.
func short(x any) string {
	s := fmt.Sprintf("%q", fmt.Sprint(x))
	return s[:min(len(s), 300)]
}

func must(t *testing.T, got, want api.Errno) {
	t.Helper()
	if got != want {
		t.Fatalf("answered %d, not %d", got, want)
	}
}

// holds has Check, Encode and Decode of a state's frame, one that may not be
// too, be as the words say.
func holds(t *testing.T, s api.Files) bool {
	t.Helper()
	may := mayBeSlow(s)
	frame := laid(s)
	want, form, bytes := api.OK, api.OK, frame
	if !may {
		want, form, bytes = api.ErrArg, api.ErrForm, ""
	}
	if e := Check(s); e != want {
		t.Fatalf("Check(%s) = %d, not %d", short(s), e, want)
	}
	if b, e := Encode(s); b != bytes || e != want {
		t.Fatalf("Encode(%s) = %s, %d, not %s, %d", short(s), short(b), e, short(bytes), want)
	}
	back, e := Decode(frame)
	if e != form || may && !same(back, s) || !may && !isZero(back) {
		t.Fatalf("Decode of the frame of %s = %s, %d, not %d", short(s), short(back), e, form)
	}
	return may
}

// reads has Decode be as the words say, of any bytes.
func reads(t *testing.T, b string) bool {
	t.Helper()
	want, is := slowDecode(b)
	got, e := Decode(b)
	if is != (e == api.OK) || !is && e != api.ErrForm || !same(got, want) {
		t.Fatalf("Decode(%s) = %s, %d, not %s, %v", short(b), short(got), e, short(want), is)
	}
	if is {
		if again, e := Encode(got); again != b || e != api.OK {
			t.Fatalf("Encode of Decode(%s) = %s, %d", short(b), short(again), e)
		}
	}
	return is
}

func TestTheChaptersExamples(t *testing.T) { // P13.1, P13.2
	must(t, Check(api.Files{Next: 1, Log: 1}), api.OK)
	must(t, Check(api.Files{Next: 0, Log: 1}), api.ErrArg)
	must(t, Check(api.Files{Next: 1, Log: 1<<40 + 1}), api.ErrArg)
	must(t, Check(state(3, 1, "1 a c 1, 2 b d 1")), api.OK)
	must(t, Check(state(3, 1, "| 1 a c 1, 2 b d 1")), api.ErrArg)

	s := state(2, 5, "1 a b 7")
	if b, e := Encode(s); b != framed("\x02\x05\x01\x01\x01\x01a\x01b\x07") || e != api.OK {
		t.Fatalf("%x, %d", b, e)
	}

	d := disk.New(1000)
	loads(t, d, "m", api.Files{}, api.ErrNone)
	must(t, Save(d, "m", s), api.OK)
	loads(t, d, "m", s, api.OK)
	d.Crash(nil)
	loads(t, d, "m", s, api.OK)

	must(t, Save(disk.New(0), "m", s), api.ErrFull)
	must(t, Save(nil, "m", s), api.ErrNil)
	must(t, Save(d, strings.Repeat("m", 61), s), api.ErrArg)
}

func TestStatesAsBytes(t *testing.T) { // P13.1, W9
	for _, c := range []struct {
		s    api.Files
		body string
	}{
		{api.Files{Next: 1, Log: 1}, "\x01\x01\x00"},
		{api.Files{Next: 1, Log: 1, Levels: [][]api.File{}}, "\x01\x01\x00"},
		{api.Files{Next: 128, Log: 300}, "\x80\x01\xac\x02\x00"},
		{api.Files{Next: 1 << 40, Log: 1<<40 - 1}, "\x80\x80\x80\x80\x80\x20\xff\xff\xff\xff\xff\x1f\x00"},
		{api.Files{Next: 1, Log: 1, Levels: [][]api.File{nil}}, "\x01\x01\x01\x00"},
		{api.Files{Next: 1, Log: 1, Levels: [][]api.File{nil, {}, nil}}, "\x01\x01\x03\x00\x00\x00"},
		{api.Files{Next: 1, Log: 1, Levels: make([][]api.File, 7)}, "\x01\x01\x07\x00\x00\x00\x00\x00\x00\x00"},
		{state(2, 5, "1 a b 7"), "\x02\x05\x01\x01\x01\x01a\x01b\x07"},
		{state(2, 1, "1 - - 1"), "\x02\x01\x01\x01\x01\x00\x00\x01"},
		{state(300, 1, "299 - zz 1073741824"), "\xac\x02\x01\x01\x01\xab\x02\x00\x02zz\x80\x80\x80\x80\x04"},
		{state(9, 2, "8 b c 1, 7 a z 2 | | 1 a a 3, 2 b bb 4"), "\x09\x02\x03\x02\x08\x01b\x01c\x01\x07\x01a\x01z\x02\x00\x02\x01\x01a\x01a\x03\x02\x01b\x02bb\x04"},
	} {
		if b, e := Encode(c.s); b != framed(c.body) || e != api.OK {
			t.Errorf("Encode(%s) = %s, %d", short(c.s), short(b), e)
		}
		if s, e := Decode(framed(c.body)); !same(s, c.s) || e != api.OK {
			t.Errorf("Decode of %q framed = %s, %d, not %s", c.body, short(s), e, short(c.s))
		}
	}
}

func TestWhichNumbersMayBe(t *testing.T) { // P13.1
	numbers := []uint64{0, 1, 2, 127, 128, 1 << 31, 1 << 32, 1<<40 - 1, 1 << 40, 1<<40 + 1, 1 << 41, 1<<63 - 1, 1 << 63, 1<<64 - 1}
	for _, next := range numbers {
		for _, log := range numbers {
			may := holds(t, api.Files{Next: next, Log: log})
			if may != (next >= 1 && next <= 1<<40 && log >= 1 && log <= 1<<40) {
				t.Errorf("Next %d, Log %d: %v", next, log, may)
			}
		}
	}
}

func TestWhichIdsMayBe(t *testing.T) { // P13.1
	for _, next := range []uint64{1, 2, 3, 128, 1 << 40} {
		for _, id := range []uint64{0, 1, 2, next - 2, next - 1, next, next + 1, 1<<40 - 1, 1 << 40, 1 << 63, math.MaxUint64} {
			for level := range 3 {
				s := api.Files{Next: next, Log: 1, Levels: make([][]api.File, 3)}
				s.Levels[level] = []api.File{{Id: id, Low: "a", High: "b", Cells: 1}}
				if may := holds(t, s); may != (id >= 1 && id < next) {
					t.Errorf("Next %d, Id %d: %v", next, id, may)
				}
			}
		}
	}
	for text, may := range map[string]bool{
		"1 a a 1, 1 b b 1": false, "1 a a 1 | 1 a a 1": false, "| 1 a a 1, 1 b b 1": false, "| 1 a a 1 | | | | | 1 b b 1": false,
		"1 a a 1, 2 b b 1, 1 c c 1": false, "1 a a 1 | 2 b b 1 | 3 c c 1, 4 d d 1, 2 e e 1": false, "1 a a 1, 1 a a 1": false,
		"1 a a 1, 2 a a 1": true, "2 a a 1, 1 a a 1": true, "1 a a 1 | 2 a a 1": true, "| 9 a a 1, 1 b b 1 | 5 a a 1": true, "3 a a 1 | 2 a a 1 | 1 a a 1": true,
	} {
		if got := holds(t, state(10, 1, text)); got != may {
			t.Errorf("%s: %v", text, got)
		}
	}
}

func TestWhichRowsMayBe(t *testing.T) { // P13.1
	long := strings.Repeat("x", 32)
	rows := []string{"", "\x00", "a", "a\x00", "aa", "ab", "b", "\x7f", "\x80", "\xff", long[:31], long, long + "x", long[:31] + "y", strings.Repeat("\xff", 32), strings.Repeat("\x00", 33), strings.Repeat("é", 17), strings.Repeat("y", 4096)}
	for _, low := range rows {
		for _, high := range rows {
			for level := range 2 {
				s := api.Files{Next: 2, Log: 1, Levels: make([][]api.File, 2)}
				s.Levels[level] = []api.File{{Id: 1, Low: low, High: high, Cells: 1}}
				if may := holds(t, s); may != (len(low) <= 32 && len(high) <= 32 && low <= high) {
					t.Errorf("%q to %q: %v", low, high, may)
				}
			}
		}
	}
}

func TestHowManyCellsMayBe(t *testing.T) { // P13.1
	for _, n := range []int{0, 1, 2, 127, 128, 1<<30 - 1, 1 << 30, 1<<30 + 1, 1 << 31, 1<<32 + 1, math.MaxInt, math.MinInt, -1, -1 << 32, 1<<32 - 1<<40} {
		for level := range 2 {
			s := api.Files{Next: 2, Log: 1, Levels: make([][]api.File, 2)}
			s.Levels[level] = []api.File{{Id: 1, Low: "a", High: "b", Cells: n}}
			if may := holds(t, s); may != (n >= 1 && n <= 1<<30) {
				t.Errorf("%d cells: %v", n, may)
			}
		}
	}
}

func TestHowManyLevelsMayBe(t *testing.T) { // P13.1
	for n := range 20 {
		if may := holds(t, api.Files{Next: 1, Log: 1, Levels: make([][]api.File, n)}); may != (n <= 7) {
			t.Errorf("%d empty levels: %v", n, may)
		}
		if n == 0 {
			continue
		}
		s := api.Files{Next: 2, Log: 1, Levels: make([][]api.File, n)}
		s.Levels[n-1] = []api.File{{Id: 1, Low: "a", High: "b", Cells: 1}}
		if may := holds(t, s); may != (n <= 7) {
			t.Errorf("a file in the level %d: %v", n-1, may)
		}
	}
}

// some has so many files in each level, each of a row of its own, those of a level rising.
func some(counts ...int) api.Files {
	s := api.Files{Next: 1, Log: 1}
	for _, n := range counts {
		var l []api.File
		for i := range n {
			row := fmt.Sprintf("%06d", i)
			l = append(l, api.File{Id: s.Next, Low: row, High: row, Cells: 1})
			s.Next++
		}
		s.Levels = append(s.Levels, l)
	}
	return s
}

func TestHowManyFilesMayBe(t *testing.T) { // P13.1
	for _, counts := range [][]int{
		{1024}, {1025}, {0, 1024}, {0, 1025}, {0, 0, 0, 0, 0, 0, 1024}, {0, 0, 0, 0, 0, 0, 1025}, {1023}, {1 << 11},
		{1, 1023}, {1, 1024}, {1024, 1}, {512, 512}, {512, 513}, {513, 512}, {1024, 1024}, {1024, 0, 0, 0, 0, 0, 1},
		{146, 146, 146, 146, 146, 146, 148}, {146, 146, 146, 146, 146, 146, 149}, {146, 147, 146, 146, 146, 146, 148}, {1024, 1024, 1024, 1024, 1024, 1024, 1024},
		{127}, {128}, {129}, {127, 128, 129},
	} {
		sum := 0
		for _, n := range counts {
			sum += n
		}
		if may := holds(t, some(counts...)); may != (sum <= 1024) {
			t.Errorf("%v files: %v", counts, may)
		}
	}
}

func TestTheLongestState(t *testing.T) { // P13.1, P13.2
	s := api.Files{Next: 1 << 40, Log: 1 << 40, Levels: make([][]api.File, 7)}
	for i := range 1024 {
		row := strings.Repeat("\xff", 29) + fmt.Sprintf("%03d", i/7)
		s.Levels[i%7] = append(s.Levels[i%7], api.File{Id: s.Next - 1 - uint64(i), Low: row, High: row, Cells: 1 << 30})
	}
	if !holds(t, s) {
		t.Fatal("it may not be")
	}
	b, _ := Encode(s)
	d := disk.New(len(b))
	must(t, Save(d, "m", s), api.OK)
	loads(t, d, "m", s, api.OK)
}

func TestWhichFilesMayStandInALevel(t *testing.T) { // P13.1
	for _, c := range []struct {
		text string
		may  bool
	}{
		{"1 a b 1, 2 b c 1", false}, {"1 a b 1, 2 c d 1", true}, {"1 a b 1, 2 a b 1", false}, {"1 b c 1, 2 a a 1", false}, {"1 a z 1, 2 b c 1", false},
		{"1 a a 1, 2 a a 1", false}, {"1 - - 1, 2 - - 1", false}, {"1 - - 1, 2 a a 1", true}, {"1 a a 1, 2 - - 1", false}, {"1 a a 1, 2 aa b 1", true},
		{"1 a aa 1, 2 a b 1", false}, {"1 a b 1, 2 c d 1, 3 d e 1", false}, {"1 a b 1, 2 c d 1, 3 a a 1", false}, {"1 a b 1, 2 c d 1, 3 e e 1", true},
		{"3 a b 1, 2 c d 1, 1 e e 1", true}, {"1 b c 1, 2 - a 1", false},
	} {
		for level := range 7 {
			text := strings.Repeat("|", level) + c.text
			if may := holds(t, state(4, 1, text)); may != (level == 0 || c.may) {
				t.Errorf("%s: %v", text, may)
			}
		}
	}
	// Files of two levels are not held against one another, whatever stands between.
	for text, may := range map[string]bool{
		"1 a z 1 | 2 a z 1": true, "| 1 a z 1 | 2 a z 1": true, "| 2 c d 1 | 1 a b 1": true, "| 1 a z 1 | | 2 b c 1": true, "1 x z 1 | 2 a b 1": true,
		"1 a z 1, 2 a z 1 | 3 a b 1, 4 c d 1 | 5 a a 1, 6 b z 1": true, "| 1 a b 1 | 2 a b 1, 3 b c 1": false, "| 1 a b 1, 2 b c 1 | 3 a b 1": false,
		"1 a b 1 | 2 c d 1, 3 c d 1": false, "| | | | | | 1 a b 1, 2 c d 1, 3 d d 1": false,
	} {
		if got := holds(t, state(9, 1, text)); got != may {
			t.Errorf("%s: %v", text, got)
		}
	}
}

func TestAllSmallStates(t *testing.T) { // P13.1, P13.3
	rows := []string{"", "a", "b"}
	var choices []api.File
	for id := range uint64(4) {
		for _, low := range rows {
			for _, high := range rows {
				choices = append(choices, api.File{Id: id, Low: low, High: high, Cells: 1})
			}
		}
	}
	count := 0
	for _, f := range choices {
		for _, g := range choices {
			for _, l := range [][][]api.File{{{f, g}}, {{f}, {g}}, {nil, {f, g}}, {nil, {f}, {g}}} {
				if holds(t, api.Files{Next: 3, Log: 1, Levels: l}) {
					count++
				}
			}
		}
	}
	// The Ids are 1 and 2, either way. Each file may have six pairs of rows; of
	// the 36 of both the level 1 may have five in one level: three behind "" to
	// "", one behind "" to a, one behind a to a.
	if want := 2 * (3*36 + 5); count != want {
		t.Errorf("%d states may be, not %d", count, want)
	}
}

// anyState has mostly what may be, and at times one thing that may not.
func anyState(next func(int) int) api.Files {
	s := api.Files{Next: 1, Log: 1 + uint64(next(400))}
	for range next(8) {
		var l []api.File
		row := 0
		for range next(5) {
			s.Next += uint64(next(2))
			low := row + next(2)
			row = low + next(3)
			l = append(l, api.File{Id: s.Next, Low: string(rune('a' + low)), High: string(rune('a' + row)), Cells: 1 + next(300)})
			s.Next++
			row++
		}
		s.Levels = append(s.Levels, l)
	}
	if next(2) == 0 {
		return s
	}
	switch next(12) {
	case 0:
		s.Next = uint64(next(3))
	case 1:
		s.Next = 1<<40 - 1 + uint64(next(3))
	case 2:
		s.Log = 1<<40 - 1 + uint64(next(3))
	case 3:
		s.Log = uint64(next(2))
	case 4:
		s.Levels = append(s.Levels, nil, nil)
	}
	var all []*api.File
	for _, l := range s.Levels {
		for i := range l {
			all = append(all, &l[i])
		}
	}
	if len(all) == 0 {
		return s
	}
	f := all[next(len(all))]
	switch next(8) {
	case 0:
		f.Id = all[next(len(all))].Id
	case 1:
		f.Id = uint64(next(int(min(s.Next, 100)) + 2))
	case 2:
		f.Low = string(rune('a' + next(9)))
	case 3:
		f.High = string(rune('a' + next(9)))
	case 4:
		f.Low = ""
	case 5:
		f.High += strings.Repeat("z", 30+next(3))
	case 6:
		f.Cells = next(2)
	case 7:
		f.Cells = 1<<30 - 1 + next(3)
	}
	return s
}

func TestAnyStates(t *testing.T) { // P13.1, P13.3, W9
	r := rand.New(rand.NewSource(13))
	count := 0
	for range 40000 {
		if holds(t, anyState(r.Intn)) {
			count++
		}
	}
	if count < 10000 || count > 35000 {
		t.Errorf("%d of the states may be: too few of a kind are tried", count)
	}
}

var example = state(300, 129, "5 b z 5, 4 a c 400 | | 1 - a 1, 2 b b 2, 299 c cc 1073741824")

func TestBytesThatAreCutOrHaveMore(t *testing.T) { // P13.1
	b, e := Encode(example)
	must(t, e, api.OK)
	body := b[8:]
	for n := range len(b) {
		if reads(t, b[:n]) {
			t.Errorf("cut at %d", n)
		}
	}
	for n := range len(body) {
		if reads(t, framed(body[:n])) {
			t.Errorf("a frame of what is cut at %d", n)
		}
	}
	for _, more := range []string{"\x00", "\x01", "x", "\x80", b, framed(""), strings.Repeat("\x00", 8)} {
		for what, s := range map[string]string{"behind": b + more, "ahead": more + b, "behind in the frame": framed(body + more)} {
			if reads(t, s) {
				t.Errorf("%q %s", more, what)
			}
		}
		// Of what stands ahead of a number some is another number's.
		reads(t, framed(more+body))
	}
	if !reads(t, b) {
		t.Error("the whole")
	}
}

func TestBytesThatAreTurned(t *testing.T) { // P13.1
	b, _ := Encode(example)
	for i := range len(b) {
		for v := range 256 {
			turned := b[:i] + string([]byte{byte(v)}) + b[i+1:]
			if reads(t, turned) != (turned == b) {
				t.Errorf("the byte %d as %02x", i, v)
			}
			// Within a right frame some of them are another state's.
			if i >= 8 {
				reads(t, framed(turned[8:]))
			}
		}
	}
}

func TestFramesOfOtherBytes(t *testing.T) { // P13.1
	for _, body := range []string{
		"", "\x01", "\x01\x01", "\x00\x01\x00", "\x01\x00\x00", "\x01\x01\x00\x00", "\x01\x01\x08\x00\x00\x00\x00\x00\x00\x00\x00", "\x01\x01\x01",
		"\x02\x01\x01\x02\x01\x00\x00\x01", "\x02\x01\x02\x01\x01\x00\x00\x01", "\x02\x01\x01\x00\x01\x00\x00\x01",
		"\x02\x01\x01\x01\x01\x01b\x01a\x01", "\x02\x01\x01\x01\x01\x00\x00\x00", "\x01\x01\x01\x01\x01\x00\x00\x01",
		"\x03\x01\x01\x02\x01\x00\x00\x01\x01\x00\x00\x01", "\x03\x01\x02\x00\x02\x01\x01a\x01b\x01\x02\x01b\x01c\x01",
		strings.Repeat("x", 1<<20), strings.Repeat("\x01", 100), strings.Repeat("\x00", 100), "some text",
	} {
		if reads(t, framed(body)) {
			t.Errorf("%s", short(body))
		}
	}
	for _, b := range []string{"", "\x00", laidBody(example), strings.Repeat("\x00", 8), strings.Repeat("\xff", 100), framed(framed(laidBody(example)))} {
		if reads(t, b) {
			t.Errorf("%s", short(b))
		}
	}
}

func TestCountsThatLie(t *testing.T) { // P13.1, R1: no room is made for what is not there
	for _, n := range []uint64{2, 7, 8, 127, 1024, 1025, 1 << 20, 1 << 31, 1 << 32, 1 << 40, 1 << 62, 1 << 63, 1<<64 - 1, 1<<64 - 7} {
		number := string(binary.AppendUvarint(nil, n))
		for _, body := range []string{
			"\x02\x01" + number, "\x02\x01" + number + "\x01\x01\x00\x00\x01", "\x02\x01\x01" + number + "\x01\x00\x00\x01",
			"\x02\x01\x01\x01\x01" + number + "a\x01b\x01", "\x02\x01\x01\x01\x01\x01a" + number + "b\x01", "\x02\x01\x01\x01\x01\x01a" + number,
			"\x02\x01\x01" + number,
		} {
			if reads(t, framed(body)) {
				t.Errorf("%d: %q", n, body)
			}
		}
		// A number of cells is none that an int may take for a small one.
		is := reads(t, framed("\x02\x01\x01\x01\x01\x01a\x01b"+number))
		if is != (n <= 1<<30) {
			t.Errorf("%d cells: %v", n, is)
		}
	}
	for _, n := range []uint64{1<<32 + 1, 1<<33 + 7, 1<<63 + 1} {
		if reads(t, framed("\x02\x01\x01\x01\x01\x01a\x01b"+string(binary.AppendUvarint(nil, n)))) {
			t.Errorf("%d cells", n)
		}
	}
}

func TestNumbersOfOtherForms(t *testing.T) { // P13.1, P13.3: no state has two kinds of bytes
	whole := []string{"\x02", "\x05", "\x01", "\x01", "\x01", "\x01", "a", "\x01", "b", "\x07"}
	if !reads(t, framed(strings.Join(whole, ""))) {
		t.Fatal("the state itself")
	}
	for i, part := range whole {
		if part == "a" || part == "b" {
			continue
		}
		for zeros := range 10 {
			other := slices.Clone(whole)
			other[i] = string([]byte{part[0] | 0x80}) + strings.Repeat("\x80", zeros) + "\x00"
			if reads(t, framed(strings.Join(other, ""))) {
				t.Errorf("the part %d as %x", i, other[i])
			}
		}
	}
}

func TestAllSmallBodies(t *testing.T) { // P13.1, P13.3
	count := 0
	var try func(body []byte, most int, letters string)
	try = func(body []byte, most int, letters string) {
		if reads(t, framed(string(body))) {
			count++
		}
		if len(body) < most {
			for i := range len(letters) {
				try(append(slices.Clip(body), letters[i]), most, letters)
			}
		}
	}
	try(nil, 8, "\x00\x01\x02\x80")
	try([]byte("\x03\x01\x02"), 11, "\x00\x01\x02a")
	try([]byte("\x03\x01\x02\x00\x02\x01\x01a\x01a\x01"), 15, "\x00\x01\x02\x03ab")
	if count < 100 {
		t.Errorf("%d bodies are states'", count)
	}
}

// sameDisk holds two disks against one another, by all that they tell.
func sameDisk(t *testing.T, got, want *disk.Disk) {
	t.Helper()
	if l, m := got.List(""), want.List(""); !slices.Equal(l, m) {
		t.Fatalf("the files are %q, not %q", l, m)
	}
	for _, name := range want.List("") {
		a, _ := got.Read(name)
		b, _ := want.Read(name)
		if a != b {
			t.Fatalf("%q has %s, not %s", name, short(a), short(b))
		}
		if got.Synced(name) != want.Synced(name) {
			t.Fatalf("of %q %d bytes are synced, not %d", name, got.Synced(name), want.Synced(name))
		}
	}
	if got.Free() != want.Free() {
		t.Fatalf("%d are free, not %d", got.Free(), want.Free())
	}
}

// loads has Load answer that, and leave the disk as it was.
func loads(t *testing.T, d *disk.Disk, name string, want api.Files, err api.Errno) {
	t.Helper()
	was := d.Copy()
	s, e := Load(d, name)
	if e != err || !same(s, want) {
		t.Fatalf("Load(%q) = %s, %d, not %s, %d", name, short(s), e, short(want), err)
	}
	if was != nil {
		sameDisk(t, d, was)
	}
}

// steps are those of a Save, as the chapter words them.
func steps(name string, s api.Files) []func(d *disk.Disk) api.Errno {
	return []func(d *disk.Disk) api.Errno{
		func(d *disk.Disk) api.Errno { d.Remove(name + ".new"); return api.OK },
		func(d *disk.Disk) api.Errno { return d.Append(name+".new", laid(s)) },
		func(d *disk.Disk) api.Errno { return d.Sync(name + ".new") },
		func(d *disk.Disk) api.Errno { return d.Rename(name+".new", name) },
	}
}

func slowSave(d *disk.Disk, name string, s api.Files) api.Errno {
	if d.Copy() == nil {
		return api.ErrNil
	}
	if !mayBeSlow(s) || len(name) < 1 || len(name) > 60 {
		return api.ErrArg
	}
	for _, step := range steps(name, s) {
		if e := step(d); e != api.OK {
			return e
		}
	}
	return api.OK
}

func slowLoad(d *disk.Disk, name string) (api.Files, api.Errno) {
	b, e := d.Read(name)
	if e != api.OK {
		return api.Files{}, e
	}
	s, is := slowDecode(b)
	if !is {
		return api.Files{}, api.ErrForm
	}
	return s, api.OK
}

// saves has Save do to a disk what the words say, file by file.
func saves(t *testing.T, d *disk.Disk, name string, s api.Files) api.Errno {
	t.Helper()
	beside := d.Copy()
	want := slowSave(beside, name, s)
	must(t, Save(d, name, s), want)
	sameDisk(t, d, beside)
	return want
}

// diskOf has these files, each name followed by its bytes, all synced.
func diskOf(t *testing.T, room int, files ...string) *disk.Disk {
	t.Helper()
	d := disk.New(room)
	for i := 0; i < len(files); i += 2 {
		must(t, d.Append(files[i], files[i+1]), api.OK)
		must(t, d.Sync(files[i]), api.OK)
	}
	return d
}

var (
	older = state(2, 5, "1 a b 7")
	newer = state(9, 6, "2 a c 1 | 1 a b 7")
)

func TestSaveLeavesTheStateUnderItsNameAlone(t *testing.T) { // P13.2
	d := diskOf(t, 1000, "other", "bytes", "mm", "of others", "m.ne", "too", "m.newer", "and these")
	must(t, saves(t, d, "m", older), api.OK)
	if b, e := d.Read("m"); b != laid(older) || e != api.OK || d.Synced("m") != len(b) {
		t.Fatalf("%q, %d, %d synced", b, e, d.Synced("m"))
	}
	if l := d.List(""); !slices.Equal(l, []string{"m", "m.ne", "m.newer", "mm", "other"}) {
		t.Fatalf("%q", l)
	}
	must(t, saves(t, d, "m", newer), api.OK)
	loads(t, d, "m", newer, api.OK)
	must(t, saves(t, d, "m", older), api.OK)
	loads(t, d, "m", older, api.OK)
	must(t, saves(t, d, "n", newer), api.OK)
	loads(t, d, "m", older, api.OK)
	loads(t, d, "n", newer, api.OK)
	must(t, saves(t, d, "m.new", newer), api.OK)
	loads(t, d, "m.new", newer, api.OK)
	loads(t, d, "m", older, api.OK)
}

func TestASpareFileThatIsThereGoes(t *testing.T) { // P13.2
	for _, spare := range []string{"", "left", laid(newer), laid(older) + "more", strings.Repeat("x", 500)} {
		for synced := range 2 {
			for _, there := range []string{"", laid(newer), "no state's"} {
				d := disk.New(2000)
				must(t, d.Append("m.new", spare), api.OK)
				if synced == 1 {
					must(t, d.Sync("m.new"), api.OK)
				}
				if there != "" {
					must(t, d.Append("m", there), api.OK)
				}
				must(t, saves(t, d, "m", older), api.OK)
				loads(t, d, "m", older, api.OK)
				loads(t, d, "m.new", api.Files{}, api.ErrNone)
				d.Crash(nil)
				loads(t, d, "m", older, api.OK)
			}
		}
	}
}

func TestNamesOfAllLengths(t *testing.T) { // P13.2, R2
	for n := range 70 {
		for _, letter := range []string{"m", "\x00", "\xff", "/", "."} {
			name := strings.Repeat(letter, n)
			d := diskOf(t, 1000, "there", "bytes")
			want := api.OK
			if n < 1 || n > 60 {
				want = api.ErrArg
			}
			must(t, saves(t, d, name, older), want)
			if want == api.OK {
				loads(t, d, name, older, api.OK)
			} else {
				loads(t, d, name, api.Files{}, api.ErrNone)
			}
			sameDisk(t, d, func() *disk.Disk { c := d.Copy(); c.Crash(nil); return c }())
		}
	}
	// A file that Save would not make is loaded all the same.
	for _, n := range []int{61, 64} {
		loads(t, diskOf(t, 1000, strings.Repeat("m", n), laid(newer)), strings.Repeat("m", n), newer, api.OK)
	}
	loads(t, disk.New(1000), strings.Repeat("m", 4096), api.Files{}, api.ErrNone)
}

func TestARefusedSaveTouchesNothing(t *testing.T) { // P13.2, P13.3, R2
	long := strings.Repeat("m", 61)
	d := diskOf(t, 1000, "m", laid(older), "m.new", "left", ".new", "left too", long, "x")
	was := d.Copy()
	for _, bad := range []api.Files{{}, {Next: 1}, {Log: 1}, state(2, 1, "2 a b 1"), state(3, 1, "| 1 a b 1, 2 b c 1"), {Next: 1, Log: 1, Levels: make([][]api.File, 8)}} {
		for _, name := range []string{"m", "", long, "n"} {
			must(t, Save(d, name, bad), api.ErrArg)
			sameDisk(t, d, was)
		}
	}
	for _, name := range []string{"", long, strings.Repeat("m", 64), strings.Repeat("m", 65), strings.Repeat("m", 4096)} {
		must(t, Save(d, name, newer), api.ErrArg)
		sameDisk(t, d, was)
	}
	loads(t, d, "m", older, api.OK)
}

func TestADiskThatIsNone(t *testing.T) { // P13.2, R1, R2, R3
	var none *disk.Disk
	for _, d := range []*disk.Disk{nil, none, new(disk.Disk), {}} {
		for _, name := range []string{"m", "", strings.Repeat("m", 61)} {
			for _, s := range []api.Files{older, {}} {
				must(t, Save(d, name, s), api.ErrNil) // ahead of what may not be
				if s, e := Load(d, name); e != api.ErrNil || !isZero(s) {
					t.Fatalf("%s, %d", short(s), e)
				}
			}
		}
	}
}

func TestWhatIsLoaded(t *testing.T) { // P13.2
	for data, want := range map[string]api.Errno{
		laid(older): api.OK, "": api.ErrForm, "x": api.ErrForm, laid(older)[:8]: api.ErrForm, laid(older) + "\x00": api.ErrForm, laid(older) + laid(older): api.ErrForm,
		laidBody(older): api.ErrForm, framed(""): api.ErrForm, laid(api.Files{}): api.ErrForm, laid(state(1, 1, "1 a b 1")): api.ErrForm, strings.ToUpper(laid(older)): api.ErrForm,
	} {
		state := older
		if want != api.OK {
			state = api.Files{}
		}
		loads(t, diskOf(t, 1000, "m", data), "m", state, want)
		// What is not synced is there as well, as long as there is power.
		d := disk.New(1000)
		must(t, d.Append("m", data), api.OK)
		loads(t, d, "m", state, want)
		loads(t, d, "n", api.Files{}, api.ErrNone)
		loads(t, d, "", api.Files{}, api.ErrNone)
	}
	// What lies under the spare name is not loaded.
	loads(t, diskOf(t, 1000, "m.new", laid(newer)), "m", api.Files{}, api.ErrNone)
	loads(t, diskOf(t, 1000, "m", laid(older), "m.new", laid(newer)), "m", older, api.OK)
}

func TestJustEnoughRoom(t *testing.T) { // P13.2, P13.3, R2
	size := len(laid(newer))
	for less := range 3 {
		for _, spare := range []int{-1, 0, 1, size - 1, size, size + 9} {
			// The old state, which stays till the new one is synced, has its room too; the spare file's room is had again.
			files := []string{"m", laid(older)}
			if spare >= 0 {
				files = append(files, "m.new", strings.Repeat("s", spare))
			}
			used := 0
			for i := 1; i < len(files); i += 2 {
				used += len(files[i])
			}
			room := max(used, len(laid(older))+size-less)
			d := diskOf(t, room, files...)
			enough := room-len(laid(older)) >= size
			e := saves(t, d, "m", newer)
			if (e == api.OK) != enough || !enough && e != api.ErrFull {
				t.Fatalf("%d less, a spare file of %d: %d", less, spare, e)
			}
			if enough {
				loads(t, d, "m", newer, api.OK)
				continue
			}
			loads(t, d, "m", older, api.OK)
			if d.Synced("m") != len(laid(older)) {
				t.Fatal("it is synced no more")
			}
			d.Crash([]int{-1, -1})
			loads(t, d, "m", older, api.OK)
		}
	}
	for room := range size + 2 {
		d := disk.New(room)
		want := api.ErrFull
		if room >= size {
			want = api.OK
		}
		must(t, saves(t, d, "m", newer), want)
		if want != api.OK {
			loads(t, d, "m", api.Files{}, api.ErrNone)
			if len(d.List("")) > 0 {
				t.Fatalf("%q is left", d.List(""))
			}
		}
	}
}

// keeps are ways in which a loss of power may leave two files' bytes, the
// unsynced ones of which are at most so many.
func keeps(most int) [][]int {
	l := [][]int{nil, {}, {0}, {0, 0}, {-1, -1}, {math.MaxInt, math.MinInt}}
	for n := range most + 1 {
		l = append(l, []int{n}, []int{0, n}, []int{n, n})
	}
	return l
}

func TestACrashAtEachStepOfASave(t *testing.T) { // P13.3, W8
	size := len(laid(newer))
	for _, left := range []string{"", "left", laid(older)} {
		for done := range 5 {
			for _, keep := range keeps(size) {
				d := disk.New(1000)
				must(t, Save(d, "m", older), api.OK)
				if left != "" {
					must(t, d.Append("m.new", left), api.OK)
				}
				for _, step := range steps("m", newer)[:done] {
					must(t, step(d), api.OK)
				}
				d.Crash(keep)
				want := older
				if done == 4 {
					want = newer
				}
				loads(t, d, "m", want, api.OK)
				// Whatever lies under the spare name, the next one goes through.
				must(t, saves(t, d, "m", example), api.OK)
				d.Crash(keep)
				loads(t, d, "m", example, api.OK)
				if len(d.List("")) != 1 {
					t.Fatalf("%q", d.List(""))
				}
			}
		}
	}
}

func TestWhatWasSavedLastIsLoadedBehindAnyCrash(t *testing.T) { // P13.3, W8
	r := rand.New(rand.NewSource(1313))
	for range 2000 {
		d := disk.New(100 + r.Intn(600))
		last := map[string]api.Files{}
		for range 30 {
			name := []string{"m", "n", "m.new.new", "o"}[r.Intn(4)]
			switch r.Intn(4) {
			case 0:
				keep := make([]int, r.Intn(5))
				for i := range keep {
					keep[i] = r.Intn(300) - 100
				}
				d.Crash(keep)
			case 1:
				d.Append(name+".new", strings.Repeat("x", r.Intn(60)))
			default:
				s := anyState(r.Intn)
				if e := saves(t, d, name, s); e == api.OK {
					last[name] = s
				}
			}
			for _, name := range []string{"m", "n", "o", "m.new.new"} {
				want, is := last[name]
				if is {
					loads(t, d, name, want, api.OK)
				} else {
					loads(t, d, name, api.Files{}, api.ErrNone)
				}
			}
		}
	}
}

func over(b []byte) string { return unsafe.String(unsafe.SliceData(b), len(b)) }

// copied has the same, and shares nothing.
func copied(s api.Files) api.Files {
	s.Levels = slices.Clone(s.Levels)
	for i, l := range s.Levels {
		s.Levels[i] = slices.Clone(l)
		for j := range l {
			s.Levels[i][j].Low, s.Levels[i][j].High = strings.Clone(l[j].Low), strings.Clone(l[j].High)
		}
	}
	return s
}

func TestWhatIsHandedInIsNotKept(t *testing.T) { // R5
	low, high, name := []byte("low"), []byte("lower"), []byte("manifest")
	s := api.Files{Next: 9, Log: 1, Levels: [][]api.File{{{Id: 1, Low: over(low), High: over(high), Cells: 1}}, {{Id: 2, Low: over(low), High: over(high), Cells: 1}}}}
	was := copied(s)
	d := disk.New(1000)
	must(t, Save(d, over(name), s), api.OK)
	b, e := Encode(s)
	must(t, e, api.OK)
	bytes := strings.Clone(b)
	low[0], high[0], name[0] = 'x', 'x', 'x'
	s.Levels[0][0].Id, s.Levels[1] = 7, nil
	if b != bytes || b != laid(was) {
		t.Error("the bytes change with the state")
	}
	loads(t, d, "manifest", was, api.OK)
	if l := d.List(""); !slices.Equal(l, []string{"manifest"}) {
		t.Errorf("%q", l)
	}

	raw := []byte(bytes)
	back, e := Decode(over(raw))
	must(t, e, api.OK)
	for i := range raw {
		raw[i] = '#'
	}
	if !same(back, was) {
		t.Errorf("%s changes with the bytes", short(back))
	}
}

func TestWhatIsHandedInIsNotChanged(t *testing.T) { // R5: nor the room behind its ends
	guard := api.File{Id: 77, Low: "guard", High: "guarded", Cells: 7}
	make1 := func() ([][]api.File, api.Files) {
		room := make([][]api.File, 4)
		for i := range room {
			room[i] = []api.File{{Id: uint64(2*i + 1), Low: "a", High: "b", Cells: 1}, {Id: uint64(2*i + 2), Low: "c", High: "d", Cells: 1}, guard}[:2]
		}
		return room, api.Files{Next: 50, Log: 1, Levels: room[:2]}
	}
	room, s := make1()
	want, _ := make1()
	d := disk.New(1000)
	for range 2 {
		must(t, Check(s), api.OK)
		Encode(s)
		must(t, Save(d, "m", s), api.OK)
		Save(disk.New(3), "m", s)
		Save(nil, "m", s)
		s.Next = 3 // refused
		must(t, Check(s), api.ErrArg)
		Encode(s)
		must(t, Save(d, "m", s), api.ErrArg)
		s.Next = 50
		for i := range room {
			if !slices.Equal(room[i][:3], want[i][:3]) {
				t.Fatalf("the level %d is %v", i, room[i][:3])
			}
		}
	}
}

func TestAnswersAreNewMemory(t *testing.T) { // R5
	text := strings.Repeat("row", 5)
	s := api.Files{Next: 100, Log: 1, Levels: [][]api.File{
		{{Id: 1, Low: text, High: text, Cells: 1}, {Id: 2, Low: text, High: text, Cells: 1}}, nil, {{Id: 3, Low: text, High: text, Cells: 1}}, {},
		{{Id: 4, Low: "a", High: "b", Cells: 1}, {Id: 5, Low: text, High: text, Cells: 1}, {Id: 6, Low: "s", High: "t", Cells: 1}},
	}}
	b, _ := Encode(s)
	d := disk.New(10000)
	must(t, Save(d, "m", s), api.OK)
	for _, read := range []func() (api.Files, api.Errno){
		func() (api.Files, api.Errno) { return Decode(b) },
		func() (api.Files, api.Errno) { return Load(d, "m") },
	} {
		one, e := read()
		must(t, e, api.OK)
		two, e := read()
		must(t, e, api.OK)
		// Each level that is written behind its end, and over, leaves all others as they were.
		for i := range one.Levels {
			was := copied(one)
			l := append(one.Levels[i], api.File{Id: 99}, api.File{Id: 98}, api.File{Id: 97}, api.File{Id: 96})
			for j := range l {
				l[j] = api.File{Id: 95}
			}
			for k := range one.Levels {
				if k != i && !slices.Equal(one.Levels[k], was.Levels[k]) {
					t.Errorf("what is put behind the level %d changes the level %d: %s", i, k, short(one.Levels[k]))
				}
			}
			one, _ = read()
		}
		// Each text is its own.
		var seen []string
		for _, s := range []api.Files{one, two} {
			for _, l := range s.Levels {
				for _, f := range l {
					seen = append(seen, f.Low, f.High)
				}
			}
		}
		for i, a := range seen {
			for j, c := range append(seen, b, text) {
				if i != j && shares(a, c) {
					t.Fatalf("%q shares with %s", a, short(c))
				}
			}
		}
		if !same(one, s) || !same(two, s) {
			t.Errorf("%s", short(two))
		}
	}
	again, _ := Encode(s)
	if shares(again, b) || again != b {
		t.Error("the bytes are not new")
	}
}

func shares(a, b string) bool {
	place := func(s string) uintptr { return uintptr(unsafe.Pointer(unsafe.StringData(s))) }
	return len(a) > 0 && len(b) > 0 && place(a) < place(b)+uintptr(len(b)) && place(b) < place(a)+uintptr(len(a))
}

func TestLevelsThatAreAnsweredKeepNoOthers(t *testing.T) { // R5: no empty level is a piece of another one
	s := some(40, 0, 3, 0, 1, 0, 0)
	b, _ := Encode(s)
	back, e := Decode(b)
	must(t, e, api.OK)
	for i, l := range back.Levels {
		if len(l) == 0 && cap(l) > 0 {
			t.Errorf("the level %d has room for %d", i, cap(l))
		}
		for _, f := range l[len(l):cap(l)] {
			if f != (api.File{}) {
				t.Errorf("behind the level %d stands %v", i, f)
			}
		}
	}
}

func TestTheSameIsAnsweredAgain(t *testing.T) { // R6
	s := some(100, 200, 0, 50)
	b, _ := Encode(s)
	for range 50 {
		if again, e := Encode(copied(s)); again != b || e != api.OK {
			t.Fatalf("%s, %d", short(again), e)
		}
	}
	// A list that is nil is as one that is empty.
	for _, l := range [][2][][]api.File{{nil, {}}, {{nil}, {{}}}, {{nil, nil}, {{}, nil}}} {
		one, e := Encode(api.Files{Next: 1, Log: 1, Levels: l[0]})
		two, f := Encode(api.Files{Next: 1, Log: 1, Levels: l[1]})
		if one != two || e != api.OK || f != api.OK {
			t.Errorf("%x, %d; %x, %d", one, e, two, f)
		}
	}
}

func TestManyLevelsAndFilesInTime(t *testing.T) { // R1
	many := make([]api.File, 1<<22)
	for _, s := range []api.Files{
		{Next: 1 << 40, Log: 1, Levels: make([][]api.File, 1<<22)},
		{Next: 1 << 40, Log: 1, Levels: [][]api.File{many, many, many, many, many, many, many}},
		{Next: 1 << 40, Log: 1, Levels: slices.Repeat([][]api.File{many}, 1<<20)},
	} {
		for range 1000 {
			must(t, Check(s), api.ErrArg)
			if b, e := Encode(s); b != "" || e != api.ErrArg {
				t.Fatalf("%s, %d", short(b), e)
			}
		}
	}
	full := some(24, 1000)
	d := disk.New(1 << 20)
	for i := range 300 {
		full.Log = uint64(i + 1)
		must(t, Save(d, "m", full), api.OK)
		s, e := Load(d, "m")
		if e != api.OK || s.Log != full.Log {
			t.Fatalf("%d, %d", s.Log, e)
		}
	}
}

func FuzzStatesAreAsTheWordsSay(f *testing.F) { // P13.1 to P13.3, W8, W9, R1
	f.Add([]byte("\x02\x05\x01\x01\x01\x01a\x01b\x07"))
	f.Add([]byte(laidBody(example)))
	f.Add([]byte{6, 200, 3, 1, 4, 1, 2, 9, 0, 1, 1, 0, 3, 3, 1, 0, 2, 7, 1, 1, 1, 0, 5, 5, 1, 2, 3})
	f.Fuzz(func(t *testing.T, told []byte) {
		reads(t, string(told))
		reads(t, framed(string(told)))
		next := func(n int) int {
			if len(told) == 0 {
				return 0
			}
			v := int(told[0]) % n
			told = told[1:]
			return v
		}
		d := disk.New(60 + next(200))
		names := []string{"m", "m.new", "n", "", strings.Repeat("m", 60), strings.Repeat("m", 61)}
		for len(told) > 0 {
			name := names[next(len(names))]
			switch next(5) {
			case 0:
				d.Crash([]int{next(50), next(50), next(50), next(50)})
			case 1:
				n := next(60)
				d.Append(name, string(told[:min(n, len(told))]))
			default:
				s := anyState(next)
				holds(t, s)
				saves(t, d, name, s)
			}
			want, e := slowLoad(d, name)
			loads(t, d, name, want, e)
		}
	})
}
