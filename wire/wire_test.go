package wire

import (
	"math"
	"strings"
	"testing"
	"unsafe"
)

// edges are numbers on both sides of each length that a number's bytes can have.
func edges() []uint64 {
	out := []uint64{0, math.MaxUint64 - 1, math.MaxUint64}
	for bits := 1; bits < 64; bits++ {
		out = append(out, 1<<bits-1, 1<<bits, 1<<bits+1)
	}
	return out
}

func TestLeftTellsWhatWasNotTaken(t *testing.T) { // P1.1
	r := New("abcde")
	if r.Left() != 5 {
		t.Fatalf("Left = %d", r.Left())
	}
	r.Byte()
	r.Take(2)
	if r.Left() != 2 {
		t.Errorf("behind three bytes Left = %d", r.Left())
	}
	if n := New("").Left(); n != 0 {
		t.Errorf("Left of nothing = %d", n)
	}
}

func TestByteTakesTheNextOne(t *testing.T) { // P1.1
	s := "\x00\xff\x80a"
	r := New(s)
	for i := range len(s) {
		if b, ok := r.Byte(); b != s[i] || !ok || r.Left() != len(s)-i-1 {
			t.Errorf("byte %d = %x, %v, %d left", i, b, ok, r.Left())
		}
	}
	for range 2 {
		if b, ok := r.Byte(); b != 0 || ok || r.Left() != 0 {
			t.Errorf("behind the last one: %x, %v", b, ok)
		}
	}
}

func TestTakeTakesJustAsMany(t *testing.T) { // P1.1
	r := New("ab\x00cd")
	for _, want := range []string{"ab", "", "\x00", "cd", ""} {
		if s, ok := r.Take(len(want)); s != want || !ok {
			t.Errorf("Take(%d) = %q, %v; want %q", len(want), s, ok, want)
		}
	}
	if r.Left() != 0 {
		t.Errorf("%d left", r.Left())
	}
}

func TestTakeRefusesWhatIsNotThere(t *testing.T) { // P1.1, R1, R2
	for _, s := range []string{"", "a", "abc"} {
		r := New(s)
		for _, n := range []int{math.MinInt, -2, -1, len(s) + 1, 1 << 40, math.MaxInt} {
			if got, ok := r.Take(n); got != "" || ok || r.Left() != len(s) {
				t.Errorf("Take(%d) of %q = %q, %v, %d left", n, s, got, ok, r.Left())
			}
		}
		if got, ok := r.Take(len(s)); got != s || !ok {
			t.Errorf("behind refusals Take(%d) of %q = %q, %v", len(s), s, got, ok)
		}
	}
}

func TestNumberIsLaidAsTheChapterSays(t *testing.T) { // P1.2, P1.3
	for _, x := range []struct {
		v   uint64
		hex string
	}{
		{0, "00"}, {1, "01"}, {127, "7f"}, {128, "8001"}, {255, "ff01"}, {300, "ac02"},
		{1<<14 - 1, "ff7f"}, {1 << 14, "808001"},
		{1<<63 - 1, "ffffffffffffffff7f"}, // nine bytes
		{1 << 63, "80808080808080808001"}, // ten
		{math.MaxUint64, "ffffffffffffffffff01"},
	} {
		if got := Hex(PutNumber("", x.v)); got != x.hex {
			t.Errorf("PutNumber(%d) = %s, want %s", x.v, got, x.hex)
		}
		s, _ := Unhex(x.hex)
		r := New(s + "\x81\x02")
		if v, ok := r.Number(); v != x.v || !ok || r.Left() != 2 {
			t.Errorf("Number of %s = %d, %v, %d left", x.hex, v, ok, r.Left())
		}
	}
}

func TestNumberTakesAsFewBytesAsItCan(t *testing.T) { // P1.3
	for _, v := range edges() {
		want := 1
		for x := v >> 7; x > 0; x >>= 7 {
			want++
		}
		if got := len(PutNumber("", v)); got != want {
			t.Errorf("%d takes %d bytes, want %d", v, got, want)
		}
	}
}

func TestNumberRefusesOtherBytes(t *testing.T) { // P1.2, R2
	for _, hex := range []string{
		"", "80", "ff", "8080", "ffffffffffffffffff", // too few
		"8000", "ff00", "808000", "ffffffffffffffffff00", // the last one of several is 0
		"80808080808080808002", "ffffffffffffffffff02", "ffffffffffffffffff03", "ffffffffffffffffff7f", // the tenth is above 1
		"80808080808080808080", "8080808080808080808001", "ffffffffffffffffffff01", "ffffffffffffffffffffff01", // more than ten
	} {
		s, _ := Unhex(hex)
		r := New(s)
		for range 2 {
			if v, ok := r.Number(); v != 0 || ok || r.Left() != len(s) {
				t.Errorf("Number of %s = %d, %v, %d left", hex, v, ok, r.Left())
			}
		}
	}
}

func TestNumberCutShortIsRefusedAtEachPlace(t *testing.T) { // P1.2, R2
	for _, v := range edges() {
		s := PutNumber("", v)
		for n := range len(s) {
			r := New(s[:n])
			if got, ok := r.Number(); got != 0 || ok || r.Left() != n {
				t.Errorf("%d of %d bytes of %d: %d, %v, %d left", n, len(s), v, got, ok, r.Left())
			}
		}
	}
}

func TestTextTakesUpToMost(t *testing.T) { // P1.2
	for _, size := range []int{0, 1, 2, 127, 128, 300, 1 << 16} {
		want := strings.Repeat("\x80", size)
		laid := PutText("", want)
		for _, most := range []int{size, size + 1, math.MaxInt} {
			r := New(laid + "ab")
			if s, ok := r.Text(most); s != want || !ok || r.Left() != 2 {
				t.Errorf("Text(%d) of %d bytes: %d, %v, %d left", most, size, len(s), ok, r.Left())
			}
		}
		for _, most := range []int{size - 1, -1, math.MinInt} {
			r := New(laid + "ab")
			if s, ok := r.Text(most); s != "" || ok || r.Left() != len(laid)+2 {
				t.Errorf("Text(%d) of %d bytes: %d, %v, %d left", most, size, len(s), ok, r.Left())
			}
		}
	}
}

func TestTextRefusesOtherBytes(t *testing.T) { // P1.2, R2
	bad := []string{"", "\x80", "\x80\x00", "\x82\x00ab", "\x03ab", "\x01", "\xff\xff\xff\xff\xff\xff\xff\xff\xff\x02ab"}
	for _, v := range []uint64{3, 1<<31 - 1, 1 << 31, 1 << 32, 1<<32 + 2, 1<<63 - 1, 1 << 63, 1<<63 + 2, math.MaxUint64 - 1, math.MaxUint64} {
		bad = append(bad, PutNumber("", v)+"ab")
	}
	for _, s := range bad {
		for _, most := range []int{math.MinInt, -1, 0, 2, 1 << 20, math.MaxInt} {
			r := New(s)
			if got, ok := r.Text(most); got != "" || ok || r.Left() != len(s) {
				t.Errorf("Text(%d) of %x = %q, %v, %d left", most, s, got, ok, r.Left())
			}
		}
	}
}

func TestPutLaysBehind(t *testing.T) { // P1.3
	for _, b := range []string{"", "x", "\x00\x80\xff", strings.Repeat("long ", 100)} {
		for v := range 256 {
			if got := PutByte(b, byte(v)); got != b+string([]byte{byte(v)}) {
				t.Errorf("PutByte(%q, %d) = %q", b, v, got)
			}
		}
		if got := PutNumber(b, 300); got != b+"\xac\x02" {
			t.Errorf("PutNumber(%q, 300) = %q", b, got)
		}
		if got := PutText(b, "ab"); got != b+"\x02ab" {
			t.Errorf("PutText(%q, ab) = %q", b, got)
		}
		if got := PutText(b, ""); got != b+"\x00" {
			t.Errorf("PutText(%q, nothing) = %q", b, got)
		}
		long := strings.Repeat("z", 300)
		if got := PutText(b, long); got != b+"\xac\x02"+long {
			t.Errorf("PutText(%q, 300 bytes) = %q", b, got)
		}
	}
}

func TestHexTellsEachByte(t *testing.T) { // P1.4
	var all, want []byte
	for v := range 256 {
		all = append(all, byte(v))
		want = append(want, "0123456789abcdef"[v/16], "0123456789abcdef"[v%16])
	}
	if got := Hex(string(all)); got != string(want) {
		t.Errorf("Hex = %s", got)
	}
	if got, ok := Unhex(string(want)); got != string(all) || !ok {
		t.Errorf("Unhex = %x, %v", got, ok)
	}
	if got := Hex(""); got != "" {
		t.Errorf("Hex of nothing = %q", got)
	}
	if got, ok := Unhex(""); got != "" || !ok {
		t.Errorf("Unhex of nothing = %q, %v", got, ok)
	}
}

func TestUnhexRefusesWhatAreNoDigits(t *testing.T) { // P1.4, R2
	for _, s := range []string{"0", "000", "00fe1", "0F", "F0", "AB", "0x00", " 00", "00 ", "0 ", "-1", "+1", "0\x00", "\xff0", "00zz", "é"} {
		if got, ok := Unhex(s); got != "" || ok {
			t.Errorf("Unhex(%q) = %x, %v", s, got, ok)
		}
	}
	for c := range 256 {
		is := c >= '0' && c <= '9' || c >= 'a' && c <= 'f'
		for _, s := range []string{string([]byte{byte(c), '0'}), string([]byte{'0', byte(c)}), string([]byte{'a', 'b', '0', byte(c)})} {
			if got, ok := Unhex(s); ok != is || !ok && got != "" {
				t.Errorf("Unhex(%q) = %x, %v", s, got, ok)
			}
		}
	}
}

func TestWhatWasPutIsReadBack(t *testing.T) { // P1.5, W9
	texts := []string{"", "a", "\x80\x00", strings.Repeat("\xff", 127), strings.Repeat("k", 128), strings.Repeat("k", 300)}
	for _, ahead := range []string{"", "\x80", "ahead"} {
		for _, behind := range []string{"", "\x00", "\xff\xff", "behind"} {
			b := ahead
			for i, v := range edges() {
				b = PutText(PutNumber(PutByte(b, byte(v)), v), texts[i%len(texts)])
			}
			r := New(b + behind)
			r.Take(len(ahead))
			for i, v := range edges() {
				c, is := r.Byte()
				n, ok := r.Number()
				s, so := r.Text(300)
				if !is || !ok || !so || c != byte(v) || n != v || s != texts[i%len(texts)] {
					t.Fatalf("item %d: %d %v, %d %v, %q %v", i, c, is, n, ok, s, so)
				}
			}
			if s, ok := r.Take(r.Left()); s != behind || !ok {
				t.Errorf("behind all stands %q, want %q", s, behind)
			}
		}
	}
}

func TestNoNumberHasTwoKindsOfBytes(t *testing.T) { // P1.5
	check := func(s string) {
		r := New(s)
		if v, ok := r.Number(); ok && PutNumber("", v) != s[:len(s)-r.Left()] {
			t.Errorf("%x is read as %d, which is laid as %x", s, v, PutNumber("", v))
		}
	}
	for a := range 256 {
		for b := range 256 {
			pair := string([]byte{byte(a), byte(b)})
			for _, ahead := range []string{"", "\x80", "\xff\x80", strings.Repeat("\x80", 7), strings.Repeat("\xff", 8), strings.Repeat("\x80", 9)} {
				check(ahead + pair)
			}
		}
	}
}

func FuzzWhatIsReadWasPutSo(f *testing.F) { // P1.5, R1, R2
	for _, s := range []string{"", "\x00", "\x02ab", "\x80\x00", "\xff\xff\xff\xff\xff\xff\xff\xff\xff\x01ab", "00fe", "0F"} {
		f.Add(s, 2)
	}
	f.Fuzz(func(t *testing.T, s string, n int) {
		held := func(name string, r *Reader, ok bool, laid string) {
			if ok && laid != s[:len(s)-r.Left()] || !ok && r.Left() != len(s) {
				t.Errorf("%s of %x: %v, laid again as %x, %d left", name, s, ok, laid, r.Left())
			}
		}
		r := New(s)
		v, ok := r.Number()
		held("Number", r, ok, PutNumber("", v))
		r = New(s)
		x, ok := r.Text(n)
		held("Text", r, ok, PutText("", x))
		r = New(s)
		x, ok = r.Take(n)
		held("Take", r, ok, x)
		r = New(s)
		b, ok := r.Byte()
		held("Byte", r, ok, PutByte("", b))
		if x, ok := Unhex(Hex(s)); x != s || !ok {
			t.Errorf("Unhex of Hex of %x = %x, %v", s, x, ok)
		}
		if x, ok := Unhex(s); ok && Hex(x) != s {
			t.Errorf("Hex of Unhex of %q = %q", s, Hex(x))
		}
	})
}

func TestReaderThatNoCallMade(t *testing.T) { // R1, R3
	for name, r := range map[string]*Reader{"nil": nil, "zero": {}} {
		if v, ok := r.Byte(); v != 0 || ok {
			t.Errorf("%s: Byte = %d, %v", name, v, ok)
		}
		if v, ok := r.Number(); v != 0 || ok {
			t.Errorf("%s: Number = %d, %v", name, v, ok)
		}
		for _, n := range []int{math.MinInt, -1, 0, 1, math.MaxInt} {
			if s, ok := r.Text(n); s != "" || ok {
				t.Errorf("%s: Text(%d) = %q, %v", name, n, s, ok)
			}
			if s, ok := r.Take(n); s != "" || ok {
				t.Errorf("%s: Take(%d) = %q, %v", name, n, s, ok)
			}
		}
		if r.Left() != 0 {
			t.Errorf("%s: Left = %d", name, r.Left())
		}
	}
}

func TestReadersAreApart(t *testing.T) { // R6: what was done to one is not seen in the other
	a, b := New("abc"), New("abc")
	a.Take(2)
	if s, ok := b.Take(3); s != "abc" || !ok || a.Left() != 1 {
		t.Errorf("%q, %v, %d", s, ok, a.Left())
	}
}

func TestAnswersAreNewMemory(t *testing.T) { // R5
	shares := func(part, whole string) bool {
		first := uintptr(unsafe.Pointer(unsafe.StringData(whole)))
		at := uintptr(unsafe.Pointer(unsafe.StringData(part)))
		return at >= first && at < first+uintptr(len(whole))
	}
	laid := PutText("", "abcdef")
	text, _ := New(laid).Text(6)
	taken, _ := New(laid).Take(len(laid))
	if text != "abcdef" || taken != laid {
		t.Fatalf("Text = %q, Take = %q", text, taken)
	}
	if shares(text, laid) || shares(taken, laid) {
		t.Error("what is answered shares its memory with what was handed in")
	}
}
