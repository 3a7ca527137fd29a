package dice

import (
	"bytes"
	"encoding/binary"
	"math"
	"math/big"
	"math/rand"
	"slices"
	"testing"
	"unsafe"
)

// edges are the numbers of choices at which the chapter tells of another thing
// than next to them, and the least and the greatest.
var edges = []int{
	math.MinInt, math.MinInt + 1, -1 << 40, -65537, -65536, -257, -256, -255, -2, -1,
	0, 1, 2, 3, 254, 255, 256, 257, 258, 511, 512, 65534, 65535, 65536, 65537, 65538,
	1<<24 - 1, 1 << 24, 1<<31 - 1, 1 << 31, 1<<32 - 1, 1 << 32, 1<<32 + 1, 1 << 40, math.MaxInt - 1, math.MaxInt,
}

// modulo is worked out on numbers without bounds, as a class from 0 to n - 1.
func modulo(v, n int) int {
	return int(new(big.Int).Mod(big.NewInt(int64(v)), big.NewInt(int64(n))).Int64())
}

// slowNext is P5.2 as it is worded: what is answered, and what is left.
func slowNext(left []byte, n int) (int, []byte) {
	if n < 2 {
		return 0, left
	}
	if n <= 256 {
		if len(left) == 0 {
			return 0, left
		}
		return modulo(int(left[0]), n), left[1:]
	}
	if n > 65536 {
		n = 65536
	}
	if len(left) < 2 {
		return 0, nil
	}
	return modulo(256*int(left[0])+int(left[1]), n), left[2:]
}

// ask holds d, that must have the bytes left, against the words, asked with
// each number of asks, and tells what is left of them.
func ask(t *testing.T, d *Dice, left []byte, asks ...int) []byte {
	t.Helper()
	if d.Left() != len(left) {
		t.Fatalf("of %x %d are left ahead of all asks", left, d.Left())
	}
	for _, n := range asks {
		want, rest := slowNext(left, n)
		if v := d.Next(n); v != want || d.Left() != len(rest) {
			t.Fatalf("of %x: Next(%d) = %d, %d left, not %d, %d left", left, n, v, d.Left(), want, len(rest))
		}
		left = rest
	}
	return left
}

// upTo are the bytes 1, 2, .. of that many, which differ from one another and
// have another number from either end.
func upTo(count int) []byte {
	raw := make([]byte, count)
	for i := range raw {
		raw[i] = byte(i + 1)
	}
	return raw
}

func TestTheChaptersExamples(t *testing.T) { // P5.1, P5.2, P5.3
	for _, c := range []struct {
		raw  []byte
		asks []int
		want []int
		left int
	}{
		{[]byte{0x07, 0xff, 0x01, 0x02}, []int{4, 1, 256, 300}, []int{3, 0, 255, 258}, 0},
		{[]byte{0x07}, []int{300}, []int{0}, 0},
		{nil, []int{5}, []int{0}, 0},
		{[]byte{0xff, 0xff}, []int{65536}, []int{65535}, 0},
		{[]byte{0xff, 0xff}, []int{1 << 40}, []int{65535}, 0},
	} {
		d := New(c.raw)
		for i, n := range c.asks {
			if v := d.Next(n); v != c.want[i] {
				t.Errorf("of %x: Next(%d) = %d, not %d", c.raw, n, v, c.want[i])
			}
		}
		if d.Left() != c.left {
			t.Errorf("of %x %d are left, not %d", c.raw, d.Left(), c.left)
		}
	}
	if b := Lay([]int{1, 256, -1, 300}); !bytes.Equal(b, []byte{0x01, 0x00, 0xff, 0x2c}) {
		t.Errorf("Lay = %x", b)
	}
}

func TestNewDiceHaveAllTheirBytes(t *testing.T) { // P5.1
	for _, count := range []int{0, 1, 2, 3, 4, 7, 8, 9, 255, 256, 257, 65536, 1 << 20} {
		raw := upTo(count)
		d := New(raw)
		for i, b := range raw {
			if d.Left() != count-i {
				t.Fatalf("of %d bytes %d are left behind %d", count, d.Left(), i)
			}
			if v := d.Next(256); v != int(b) {
				t.Fatalf("of %d bytes the one behind %d is %d, not %d", count, i, v, b)
			}
		}
		if d.Left() != 0 {
			t.Errorf("of %d bytes %d are left behind all", count, d.Left())
		}
	}
}

func TestDiceOfNoBytesAreDice(t *testing.T) { // P5.1, P5.2, P5.4
	for name, raw := range map[string][]byte{"nil": nil, "empty": {}, "an empty beginning": upTo(3)[:0], "an empty end": upTo(3)[3:]} {
		d := New(raw)
		if d == nil {
			t.Fatalf("%s: no dice", name)
		}
		c := d.Copy()
		if c == nil || c == d {
			t.Fatalf("%s: no copy", name)
		}
		for _, x := range []*Dice{d, c, c.Copy()} {
			ask(t, x, nil, edges...)
		}
	}
}

func TestUsedUpDiceAreDice(t *testing.T) { // P5.1, P5.2, P5.4
	for _, n := range []int{2, 256, 257, 65536} {
		d := New([]byte{9, 9})
		for d.Left() > 0 {
			d.Next(n)
		}
		ask(t, d, nil, edges...)
		c := d.Copy()
		if c == nil {
			t.Fatalf("used up by %d: no copy", n)
		}
		ask(t, c, nil, edges...)
	}
	d := New([]byte{9})
	d.Next(257)
	if c := d.Copy(); c == nil {
		t.Error("used up by 257, one byte: no copy")
	} else {
		ask(t, c, nil, edges...)
	}
}

func TestEachEdgeAtEachCountOfBytes(t *testing.T) { // P5.2, P5.4
	for _, raw := range [][]byte{
		nil, {0}, {1}, {0x7f}, {0x80}, {0xff},
		{0, 0}, {0, 1}, {1, 0}, {0, 0xff}, {0xff, 0}, {1, 1}, {1, 2}, {0x80, 0}, {0xff, 0xfe}, {0xff, 0xff},
		{0xff, 0xff, 0xff}, {1, 2, 3}, {0, 0, 0}, {1, 2, 3, 4}, {0xff, 0xff, 0xff, 0xff, 0xff},
	} {
		for _, n := range edges {
			ask(t, New(raw), raw, n)
			for _, m := range edges {
				ask(t, New(raw), raw, n, m, 256)
			}
		}
	}
}

func TestEachByteAtEachNumberOfChoices(t *testing.T) { // P5.2, P5.4
	for b := range 256 {
		for n := -3; n <= 260; n++ {
			raw := []byte{byte(b), 0x5a, 0xa5}
			ask(t, New(raw), raw, n)
		}
	}
}

func TestEachTwoBytesAtTheEdges(t *testing.T) { // P5.2, P5.4
	for v := range 65536 {
		for _, n := range []int{256, 257, 300, 65535, 65536, 65537, math.MaxInt} {
			raw := []byte{byte(v >> 8), byte(v), 0x5a}
			ask(t, New(raw), raw, n)
		}
	}
}

func TestWhatTheEdgesOfNextAnswer(t *testing.T) { // P5.2
	for _, c := range []struct {
		raw        []byte
		n          int
		want, left int
	}{
		// Nothing to choose from: nothing is used.
		{[]byte{7, 8}, math.MinInt, 0, 2}, {[]byte{7, 8}, -256, 0, 2}, {[]byte{7, 8}, -1, 0, 2},
		{[]byte{7, 8}, 0, 0, 2}, {[]byte{7, 8}, 1, 0, 2},
		// One byte.
		{[]byte{7, 8}, 2, 1, 1}, {[]byte{255, 8}, 255, 0, 1}, {[]byte{254, 8}, 255, 254, 1}, {[]byte{255, 8}, 256, 255, 1},
		// Two, the first one the higher one.
		{[]byte{1, 0}, 257, 256, 0}, {[]byte{1, 1}, 257, 0, 0}, {[]byte{0, 1}, 257, 1, 0},
		{[]byte{255, 255}, 65535, 0, 0}, {[]byte{255, 254}, 65535, 65534, 0},
		{[]byte{255, 255}, 65536, 65535, 0}, {[]byte{255, 255}, 65537, 65535, 0}, {[]byte{255, 255}, math.MaxInt, 65535, 0},
		{[]byte{1, 2, 3}, 65537, 258, 1}, {[]byte{1, 2, 3}, math.MaxInt, 258, 1},
		// One is left.
		{[]byte{7}, 256, 7, 0}, {[]byte{7}, 257, 0, 0}, {[]byte{7}, 65536, 0, 0}, {[]byte{7}, 65537, 0, 0}, {[]byte{7}, math.MaxInt, 0, 0},
		// None.
		{nil, 2, 0, 0}, {nil, 256, 0, 0}, {nil, 257, 0, 0}, {nil, math.MaxInt, 0, 0},
	} {
		d := New(c.raw)
		if v := d.Next(c.n); v != c.want || d.Left() != c.left {
			t.Errorf("of %x: Next(%d) = %d, %d left, not %d, %d left", c.raw, c.n, v, d.Left(), c.want, c.left)
		}
	}
}

func TestWhatNothingIsChosenFromUsesNothing(t *testing.T) { // P5.2
	raw := upTo(5)
	d := New(raw)
	for _, b := range raw {
		for _, n := range []int{math.MinInt, -65537, -1, 0, 1} {
			if v := d.Next(n); v != 0 {
				t.Errorf("Next(%d) = %d", n, v)
			}
		}
		if v := d.Next(256); v != int(b) {
			t.Errorf("the next byte is %d, not %d", v, b)
		}
	}
}

func TestTheLastByteIsNotKeptForLater(t *testing.T) { // P5.2
	for _, n := range []int{257, 65536, 65537, math.MaxInt} {
		d := New([]byte{1, 2, 3})
		if v := d.Next(n); v != 258%min(n, 65536) {
			t.Errorf("Next(%d) = %d", n, v)
		}
		if v := d.Next(n); v != 0 || d.Left() != 0 {
			t.Errorf("Next(%d) of one byte = %d, %d left", n, v, d.Left())
		}
		if v := d.Next(256); v != 0 {
			t.Errorf("behind it the byte is told: %d", v)
		}
	}
}

func TestACopyGoesItsOwnWay(t *testing.T) { // P5.1, P5.4
	raw := upTo(6)
	for _, c := range []struct {
		name         string
		first, later []int // what is asked ahead of the copying, and behind it
		own          []int // what the copy is asked
	}{
		{"at once", nil, []int{256, 300, 2}, []int{300, 256, 256}},
		{"behind one", []int{256}, []int{300, 300}, []int{2, 3, 300}},
		{"behind three", []int{256, 65536}, []int{256, 256, 256}, []int{256}},
		{"one left", []int{300, 300, 256}, []int{256}, []int{257}},
		{"none left", []int{300, 300, 300}, []int{256, 257}, []int{257, 256}},
		{"used up by one too many", []int{256, 300, 300, 300}, []int{256}, []int{256, 300}},
		{"nothing asked", nil, nil, nil},
	} {
		begin := func() (d, copied *Dice, left []byte) {
			d = New(raw)
			left = ask(t, d, raw, c.first...)
			copied = d.Copy()
			if copied == nil || copied == d {
				t.Fatalf("%s: no copy", c.name)
			}
			return d, copied, left
		}
		// The one ahead of the other, either way.
		d, copied, left := begin()
		rest := ask(t, d, left, c.later...)
		ask(t, copied, left, c.own...)
		ask(t, d, rest)
		d, copied, left = begin()
		rest = ask(t, copied, left, c.own...)
		ask(t, d, left, c.later...)
		ask(t, copied, rest)
		// In turns, either way.
		for _, swap := range []bool{false, true} {
			d, copied, left = begin()
			both, lists, lefts := [2]*Dice{d, copied}, [2][]int{c.later, c.own}, [2][]byte{left, left}
			if swap {
				both, lists = [2]*Dice{copied, d}, [2][]int{c.own, c.later}
			}
			for i := range max(len(c.later), len(c.own)) {
				for side, x := range both {
					if i < len(lists[side]) {
						lefts[side] = ask(t, x, lefts[side], lists[side][i])
					}
				}
			}
			ask(t, both[0], lefts[0], 256, 300)
			ask(t, both[1], lefts[1], 256, 300)
		}
	}
}

func TestCopiesOfCopies(t *testing.T) { // P5.1, P5.4
	raw := upTo(9)
	all := []*Dice{New(raw)}
	for range raw {
		all = append(all, all[len(all)-1].Copy())
	}
	// Each one is asked once more than the one that it was copied from.
	for i, d := range all {
		ask(t, d, raw, slices.Repeat([]int{256}, i)...)
	}
	for i, d := range all {
		ask(t, d.Copy(), raw[i:], 256, 300, 256)
		ask(t, d, raw[i:], 300, 256)
	}
}

func TestLayAtTheEdges(t *testing.T) { // P5.3
	for _, c := range []struct {
		v    int
		want byte
	}{
		{0, 0}, {1, 1}, {127, 127}, {128, 128}, {254, 254}, {255, 255}, {256, 0}, {257, 1}, {300, 44}, {511, 255}, {512, 0},
		{65535, 255}, {65536, 0}, {1<<31 - 1, 255}, {1 << 31, 0}, {1<<32 + 5, 5},
		{-1, 255}, {-2, 254}, {-127, 129}, {-128, 128}, {-255, 1}, {-256, 0}, {-257, 255}, {-300, 212}, {-1 << 31, 0}, {-1<<31 - 1, 255},
		{math.MinInt, 0}, {math.MinInt + 1, 1}, {math.MaxInt, 255}, {math.MaxInt - 1, 254},
	} {
		if b := Lay([]int{c.v}); !bytes.Equal(b, []byte{c.want}) {
			t.Errorf("Lay(%d) = %x, not %02x", c.v, b, c.want)
		}
	}
	for v := -1025; v <= 1025; v++ {
		if b := Lay([]int{v}); len(b) != 1 || int(b[0]) != modulo(v, 256) {
			t.Errorf("Lay(%d) = %x", v, b)
		}
	}
}

func TestLayTellsEachNumberAtItsPlace(t *testing.T) { // P5.3
	if b := Lay(nil); len(b) != 0 {
		t.Errorf("Lay(nil) = %x", b)
	}
	if b := Lay([]int{}); len(b) != 0 {
		t.Errorf("Lay of an empty list = %x", b)
	}
	for _, count := range []int{1, 2, 3, 8, 9, 255, 256, 257, 65537} {
		l := make([]int, count)
		for i := range l {
			l[i] = 7*i - 5*count
		}
		b := Lay(l)
		if len(b) != count {
			t.Fatalf("%d numbers are laid as %d bytes", count, len(b))
		}
		for i, v := range l {
			if int(b[i]) != modulo(v, 256) {
				t.Fatalf("of %d numbers the one at %d, %d, is laid as %d", count, i, v, b[i])
			}
		}
	}
}

func TestDiceOfWhatIsLaidAnswerIt(t *testing.T) { // P5.4
	for _, l := range [][]int{nil, {0}, edges, {0, 255, 256, -1, -256, -257, math.MinInt, math.MaxInt}} {
		d := New(Lay(l))
		if d.Left() != len(l) {
			t.Errorf("of %d: %d bytes are left", l, d.Left())
		}
		for _, v := range l {
			if got := d.Next(256); got != modulo(v, 256) {
				t.Errorf("of %d: %d is told as %d", l, v, got)
			}
		}
		for range 3 {
			if v := d.Next(256); v != 0 || d.Left() != 0 {
				t.Errorf("of %d: behind all %d, %d left", l, v, d.Left())
			}
		}
	}
}

// anyAsk tends to numbers of one byte and of two, and has all others too.
func anyAsk(r *rand.Rand) int {
	switch r.Intn(5) {
	case 0:
		return edges[r.Intn(len(edges))]
	case 1:
		return r.Intn(8)
	case 2:
		return r.Intn(300)
	case 3:
		return r.Intn(70000)
	}
	return int(r.Uint64()) >> r.Intn(64)
}

func TestAnyAsksOfAnyDice(t *testing.T) { // P5.1, P5.2, P5.4
	r := rand.New(rand.NewSource(5))
	for range 20000 {
		raw := make([]byte, r.Intn(24))
		r.Read(raw)
		type pair struct {
			d    *Dice
			left []byte
		}
		all := []pair{{New(raw), raw}}
		for range 30 {
			at := r.Intn(len(all))
			if r.Intn(8) == 0 {
				all = append(all, pair{all[at].d.Copy(), all[at].left})
				continue
			}
			n := anyAsk(r)
			all[at].left = ask(t, all[at].d, all[at].left, n)
		}
		for _, p := range all {
			ask(t, p.d, p.left)
		}
	}
}

func TestWhatIsAnsweredIsBelowN(t *testing.T) { // P5.4
	r := rand.New(rand.NewSource(54))
	for range 2000 {
		raw := make([]byte, 40)
		r.Read(raw)
		d := New(raw)
		for range 40 {
			n := anyAsk(r)
			if v := d.Next(n); v < 0 || n < 1 && v != 0 || n >= 1 && v > n-1 {
				t.Fatalf("Next(%d) = %d", n, v)
			}
		}
	}
}

func TestTheSameBytesAskedTheSameAnswerTheSame(t *testing.T) { // P5.4, R6, W1
	r := rand.New(rand.NewSource(1))
	for range 500 {
		raw := make([]byte, r.Intn(50))
		r.Read(raw)
		asks := make([]int, 40)
		for i := range asks {
			asks[i] = anyAsk(r)
		}
		told := func(d *Dice) (out []int) {
			for _, n := range asks {
				out = append(out, d.Next(n), d.Left())
			}
			return out
		}
		first := told(New(raw))
		// The same bytes, with another room behind them, and copied.
		roomy := append(make([]byte, 0, 200), raw...)
		for _, d := range []*Dice{New(raw), New(roomy), New(raw).Copy(), New(slices.Clip(roomy))} {
			if got := told(d); !slices.Equal(got, first) {
				t.Fatalf("of %x, asked with %d: %d, and %d", raw, asks, first, got)
			}
		}
	}
}

func TestDiceThatAreNone(t *testing.T) { // P5.1, R1, R3
	var zero Dice
	for name, d := range map[string]*Dice{"nil": nil, "new": new(Dice), "zero": &zero, "a literal": {}} {
		for range 2 {
			for _, n := range edges {
				if v := d.Next(n); v != 0 {
					t.Errorf("%s: Next(%d) = %d", name, n, v)
				}
			}
			if d.Left() != 0 {
				t.Errorf("%s: %d left", name, d.Left())
			}
			if c := d.Copy(); c != nil {
				t.Errorf("%s: a copy", name)
			}
		}
	}
}

func TestWhatIsHandedInIsNotChanged(t *testing.T) { // R5
	whole := upTo(20)
	was := bytes.Clone(whole)
	for _, raw := range [][]byte{whole[4:9], whole[:0], whole[20:], whole, whole[4:9:9], whole[4:4:9]} {
		d := New(raw)
		c := d.Copy()
		for range 6 {
			d.Next(256)
			c.Next(300)
			d.Copy().Next(2)
		}
		if !bytes.Equal(whole, was) {
			t.Fatalf("of %x the bytes around are now %x", raw, whole)
		}
	}
	numbers := make([]int, 20)
	for i := range numbers {
		numbers[i] = 300*i - 2500
	}
	wasNumbers := slices.Clone(numbers)
	for _, l := range [][]int{numbers[4:9], numbers[:0], numbers} {
		Lay(l)
		if !slices.Equal(numbers, wasNumbers) {
			t.Fatalf("of %d the numbers around are now %d", l, numbers)
		}
	}
}

func TestWhatIsHandedInIsNotKept(t *testing.T) { // P5.1, R5
	for _, room := range []int{0, 1, 8, 100} {
		raw := append(make([]byte, 0, 7+room), upTo(7)...)
		was := bytes.Clone(raw)
		d := New(raw)
		scribble := func(b byte) {
			for i := range raw[:cap(raw)] {
				raw[:cap(raw)][i] = b
			}
		}
		scribble(0xee)
		left := ask(t, d, was, 256, 300)
		c := d.Copy()
		scribble(0x11)
		ask(t, c, left, 256, 300, 256)
		scribble(0x22)
		ask(t, d, left, 300, 256, 256)
	}
}

func sharesBytes(a, b []byte) bool {
	begins := func(s []byte) uintptr { return uintptr(unsafe.Pointer(unsafe.SliceData(s))) }
	return begins(a) < begins(b)+uintptr(cap(b)) && begins(b) < begins(a)+uintptr(cap(a))
}

func TestAnswersAreNewMemory(t *testing.T) { // R5
	raw := upTo(9)
	d := New(raw)
	if sharesBytes(d.rest, raw) {
		t.Error("dice share the bytes that were handed in")
	}
	for range 3 {
		if sharesBytes(d.Copy().rest, d.rest) || sharesBytes(d.Copy().rest, raw) {
			t.Error("a copy shares bytes")
		}
		d.Next(256)
	}
	l := []int{1, 2, 3}
	one, other := Lay(l), Lay(l)
	if sharesBytes(one, other) {
		t.Error("two answers of Lay share bytes")
	}
	clear(one)
	if !bytes.Equal(other, upTo(3)) || !slices.Equal(l, []int{1, 2, 3}) {
		t.Errorf("behind a change of one answer: %x, %d", other, l)
	}
	d = New(other)
	clear(other)
	ask(t, d, upTo(3), 256, 256, 256)
}

func TestManyBytesAreUsedUpInTime(t *testing.T) { // R1
	const count = 1 << 24
	raw := make([]byte, count)
	for i := range raw {
		raw[i] = byte(i >> 3)
	}
	d := New(raw)
	for i := 0; i < count; i += 2 {
		want := int(raw[i])<<8 | int(raw[i+1])
		if v := d.Next(65536); v != want {
			t.Fatalf("behind %d bytes: %d, not %d", i, v, want)
		}
	}
	if d.Left() != 0 {
		t.Errorf("%d left", d.Left())
	}
}

func FuzzDiceAnswerAsTheWordsSay(f *testing.F) { // P5.1 to P5.4, R1
	for _, n := range edges {
		f.Add([]byte{0x07, 0xff, 0x01, 0x02}, binary.BigEndian.AppendUint64(nil, uint64(n)))
	}
	f.Add([]byte{}, []byte("\x00\x00\x00\x00\x00\x00\x01\x00\x00\x00\x00\x00\x00\x00\x01\x01"))
	f.Fuzz(func(t *testing.T, raw, told []byte) {
		var asks []int
		for part := range slices.Chunk(told, 8) {
			asks = append(asks, int(binary.BigEndian.Uint64(append(make([]byte, 8-len(part)), part...))))
		}
		d, left := New(raw), raw
		for _, n := range asks {
			c, was := d.Copy(), left
			left = ask(t, d, left, n)
			ask(t, c, was, n)
		}
		laid := Lay(asks)
		if len(laid) != len(asks) {
			t.Fatalf("%d numbers are laid as %d bytes", len(asks), len(laid))
		}
		for i, n := range asks {
			if int(laid[i]) != modulo(n, 256) {
				t.Fatalf("%d is laid as %d", n, laid[i])
			}
		}
	})
}
