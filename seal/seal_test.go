package seal

import (
	"fmt"
	"math/rand"
	"slices"
	"strings"
	"testing"
	"unsafe"

	"acreage/api"
)

// slowSum is the sum as the chapter words it, bit by bit.
func slowSum(s string) uint32 {
	register := uint32(0xffffffff)
	for i := range len(s) {
		for bit := range 8 {
			unlike := register&1 != uint32(s[i]>>bit)&1
			register >>= 1
			if unlike {
				register ^= 0xEDB88320
			}
		}
	}
	return ^register
}

// slowFrame is the frame as the chapter words it.
func slowFrame(body string) string {
	size := uint32(len(body))
	head := string([]byte{byte(size >> 24), byte(size >> 16), byte(size >> 8), byte(size)})
	sum := slowSum(head + body)
	return head + string([]byte{byte(sum), byte(sum >> 8), byte(sum >> 16), byte(sum >> 24)}) + body
}

func randomText(chance *rand.Rand, size int) string {
	b := make([]byte, size)
	chance.Read(b)
	return string(b)
}

// bodies are of no bytes, of a few, of such that look like frames themselves.
func bodies() []string {
	return []string{"", "a", "\x00", "\xff\xff", "hello", slowFrame(""), slowFrame("x") + "y", strings.Repeat("\x00", 40), strings.Repeat("z", 300)}
}

// row lays bodies as frames, one behind the other, and tells where each ends.
func row(bodies []string) (all string, ends []int) {
	for _, b := range bodies {
		all += slowFrame(b)
		ends = append(ends, len(all))
	}
	return all, ends
}

func refused(t *testing.T, name, s string) {
	t.Helper()
	if body, size, e := Open(s); body != "" || size != 0 || e != api.ErrForm {
		t.Errorf("%s: Open = %d bytes, %d, %d", name, len(body), size, e)
	}
	if list, good := Scan(s); len(list) != 0 || good != 0 {
		t.Errorf("%s: Scan = %d bodies, %d", name, len(list), good)
	}
}

func TestSumOfKnownTexts(t *testing.T) { // P2.1
	for s, want := range map[string]uint32{
		"":                      0,
		"a":                     0xE8B7BE43,
		"123456789":             0xCBF43926,
		"\x00\x00\x00\x00":      0x2144DF1C,
		"\xff\xff\xff\xff":      0xFFFFFFFF,
		strings.Repeat("a", 64): slowSum(strings.Repeat("a", 64)),
	} {
		if got := Sum(s); got != want {
			t.Errorf("Sum(%q) = %08X, want %08X", s, got, want)
		}
	}
}

func TestSumIsTheOneOfTheWords(t *testing.T) { // P2.1
	for a := range 256 {
		for b := range 256 {
			s := string([]byte{byte(a), byte(b)})
			if got := Sum(s); got != slowSum(s) {
				t.Fatalf("Sum(%x) = %08X, want %08X", s, got, slowSum(s))
			}
		}
	}
	chance := rand.New(rand.NewSource(1))
	for size := range 300 {
		s := randomText(chance, size)
		if got := Sum(s); got != slowSum(s) {
			t.Errorf("Sum(%x) = %08X, want %08X", s, got, slowSum(s))
		}
	}
}

func TestSumOfParts(t *testing.T) { // P2.1
	if got := Sum(); got != 0 {
		t.Errorf("of no parts: %08X", got)
	}
	if got := Sum(nil...); got != 0 {
		t.Errorf("of a nil list: %08X", got)
	}
	if got := Sum("", "", ""); got != 0 {
		t.Errorf("of empty parts: %08X", got)
	}
	const whole = "123456789"
	for i := range len(whole) + 1 {
		for j := i; j <= len(whole); j++ {
			if got := Sum(whole[:i], "", whole[i:j], whole[j:], ""); got != 0xCBF43926 {
				t.Errorf("cut at %d and %d: %08X", i, j, got)
			}
		}
	}
	if Sum("a", "b") == Sum("b", "a") {
		t.Error("the order of the parts makes no difference")
	}
}

func TestFrameIsLaidAsTheChapterSays(t *testing.T) { // P2.1
	for body, want := range map[string]string{
		"":  "\x00\x00\x00\x00\x1c\xdf\x44\x21",
		"a": "\x00\x00\x00\x01\x92\x97\x8c\xe5a",
	} {
		if got, e := Frame(body); got != want || e != api.OK {
			t.Errorf("Frame(%q) = %x, %d; want %x", body, got, e, want)
		}
	}
	for _, size := range []int{0, 1, 2, 255, 256, 257, 1 << 16, 1<<16 + 258, api.MaxFrame - 1, api.MaxFrame} {
		body := strings.Repeat("\xa5", size)
		if got, e := Frame(body); got != slowFrame(body) || e != api.OK {
			t.Errorf("Frame of %d bytes: %d bytes, %d", size, len(got), e)
		}
	}
}

func TestFrameRefusesWhatIsTooLong(t *testing.T) { // P2.1, R2
	for _, size := range []int{api.MaxFrame + 1, api.MaxFrame + 2, 1 << 21, 1 << 24} {
		if got, e := Frame(strings.Repeat("a", size)); got != "" || e != api.ErrLong {
			t.Errorf("Frame of %d bytes: %d bytes, %d", size, len(got), e)
		}
	}
}

func TestOpenTellsTheFirstFrame(t *testing.T) { // P2.2, P2.4, W9
	for _, body := range append(bodies(), strings.Repeat("m", api.MaxFrame)) {
		frame, e := Frame(body)
		if e != api.OK {
			t.Fatalf("Frame of %d bytes: %d", len(body), e)
		}
		for _, behind := range []string{"", "\x00", "\xff", strings.Repeat("\x00", 8), slowFrame(""), "whatever stands behind it"} {
			got, size, e := Open(frame + behind)
			if got != body || size != len(frame) || e != api.OK {
				t.Errorf("of a body of %d bytes, with %q behind: %d bytes, %d, %d", len(body), behind, len(got), size, e)
			}
		}
	}
}

func TestOpenRefusesTooFewBytes(t *testing.T) { // P2.2, R1, R2
	empty := slowFrame("")
	for n := range 8 {
		refused(t, fmt.Sprint(n, " bytes of a frame"), empty[:n])
		refused(t, fmt.Sprint(n, " bytes 0"), strings.Repeat("\x00", n))
		refused(t, fmt.Sprint(n, " bytes ff"), strings.Repeat("\xff", n))
	}
	if body, size, e := Open(empty); body != "" || size != 8 || e != api.OK {
		t.Errorf("of just 8 bytes: %q, %d, %d", body, size, e)
	}
	refused(t, "8 bytes 0", strings.Repeat("\x00", 8))
	for _, body := range append(bodies()[1:], strings.Repeat("m", api.MaxFrame)) {
		frame := slowFrame(body)
		refused(t, "a body one byte short", frame[:len(frame)-1])
		refused(t, "a body that is missing", frame[:8])
	}
}

func TestOpenRefusesLengthsAboveTheLimit(t *testing.T) { // P2.2, R1
	most := slowFrame(strings.Repeat("m", api.MaxFrame))
	if body, size, e := Open(most); len(body) != api.MaxFrame || size != len(most) || e != api.OK {
		t.Errorf("MaxFrame bytes: %d, %d, %d", len(body), size, e)
	}
	for _, size := range []int{api.MaxFrame + 1, api.MaxFrame + 2, 1 << 21} {
		// The sum is the right one: the length alone is what is wrong.
		refused(t, fmt.Sprint(size, " bytes"), slowFrame(strings.Repeat("m", size)))
	}
	for _, first := range []string{"\x01\x00\x00\x02", "\x80\x00\x00\x02", "\x00\x20\x00\x02", "\x00\x01\x00\x02", "\x00\x00\x01\x02"} {
		// The sum is the right one for whoever reads the last byte alone.
		refused(t, fmt.Sprintf("a length of %x, with two bytes", first), first+laySum(slowSum(first+"ab"))+"ab")
	}
	for _, first := range []string{"\x00\x10\x00\x01", "\x01\x00\x00\x00", "\x7f\xff\xff\xff", "\x80\x00\x00\x00", "\x80\x00\x00\x01", "\xff\xff\xff\xf8", "\xff\xff\xff\xff"} {
		refused(t, fmt.Sprintf("a length of %x", first), first+strings.Repeat("\x00", 20))
	}
}

func TestOpenRefusesAnotherSum(t *testing.T) { // P2.2, R2
	for _, body := range bodies() {
		frame := []byte(slowFrame(body))
		for bit := range 8 * len(frame) {
			frame[bit/8] ^= 1 << (bit % 8)
			refused(t, fmt.Sprint("a frame of ", len(body), " bytes, bit ", bit), string(frame))
			// With bytes behind it a length that was turned may be there.
			refused(t, fmt.Sprint("the same, with bytes behind, bit ", bit), string(frame)+strings.Repeat("\x00", 64))
			frame[bit/8] ^= 1 << (bit % 8)
		}
	}
	for _, sum := range []string{"\x21\x44\xdf\x1c", "\xe3\x20\xbb\xde", "\x00\x00\x00\x00", "\xff\xff\xff\xff"} {
		refused(t, fmt.Sprintf("no bytes, with the sum %x", sum), "\x00\x00\x00\x00"+sum)
	}
}

func TestScanTellsEachFrame(t *testing.T) { // P2.3
	list := bodies()
	all, _ := row(list)
	if got, good := Scan(all); !slices.Equal(got, list) || good != len(all) {
		t.Errorf("Scan = %q, %d; want %q, %d", got, good, list, len(all))
	}
	if got, good := Scan(""); len(got) != 0 || good != 0 {
		t.Errorf("Scan of nothing = %q, %d", got, good)
	}
	if got, good := Scan(slowFrame("") + slowFrame("a") + "\x00\x00"); !slices.Equal(got, []string{"", "a"}) || good != 17 {
		t.Errorf("the chapter's example: %q, %d", got, good)
	}
	many := strings.Repeat(slowFrame("k"), 20000)
	if got, good := Scan(many); len(got) != 20000 || good != len(many) {
		t.Errorf("of 20000 frames: %d, %d", len(got), good)
	}
	most := slowFrame(strings.Repeat("m", api.MaxFrame))
	if got, good := Scan(most + most); len(got) != 2 || good != 2*len(most) {
		t.Errorf("of two of MaxFrame bytes: %d, %d", len(got), good)
	}
}

func TestScanEndsAtTheFirstThatIsNone(t *testing.T) { // P2.3
	list := bodies()
	all, ends := row(list)
	for i := range list {
		bad := []byte(all)
		bad[ends[i]-len(list[i])-1] ^= 1 // its sum's last byte
		got, good := Scan(string(bad))
		begin := ends[i] - len(list[i]) - 8
		if !slices.Equal(got, list[:i]) || good != begin {
			t.Errorf("the frame %d is none: %d bodies, %d; want %d, %d", i, len(got), good, i, begin)
		}
	}
}

func TestRowThatIsCutHasTheWholeOnes(t *testing.T) { // P2.4, W8
	list := bodies()
	all, ends := row(list)
	whole := 0
	for n := range len(all) + 1 {
		if whole < len(ends) && ends[whole] <= n {
			whole++
		}
		end := 0
		if whole > 0 {
			end = ends[whole-1]
		}
		if got, good := Scan(all[:n]); !slices.Equal(got, list[:whole]) || good != end {
			t.Errorf("cut at %d: %d bodies, %d; want %d, %d", n, len(got), good, whole, end)
		}
	}
}

func TestBytesOfNoughtBehindARowChangeNothing(t *testing.T) { // P2.4, W8
	list := bodies()
	for count := range len(list) + 1 {
		all, _ := row(list[:count])
		for _, zeros := range []int{0, 1, 2, 7, 8, 9, 15, 16, 17, 64, 4096} {
			if got, good := Scan(all + strings.Repeat("\x00", zeros)); !slices.Equal(got, list[:count]) || good != len(all) {
				t.Errorf("%d frames, %d bytes 0: %d bodies, %d", count, zeros, len(got), good)
			}
		}
	}
}

// turn turns the bits of mask in body, the lowest at the place bit; bits that
// would stand behind the body's last one are not turned.
func turn(body []byte, bit int, mask uint32) {
	for i := range 32 {
		if at := bit + i; mask>>i&1 == 1 && at < 8*len(body) {
			body[at/8] ^= 1 << (at % 8)
		}
	}
}

func TestRunsOfTurnedBitsAreSeen(t *testing.T) { // P2.5
	chance := rand.New(rand.NewSource(2))
	for _, size := range []int{1, 2, 3, 4, 5, 8, 33, 300} {
		frame := []byte(slowFrame(randomText(chance, size)))
		for bit := range 8 * size {
			masks := []uint32{0xffffffff, 0x80000001, 0x00000003, 0x00000007, 0xaaaaaaab, 0xedb88321, 0xdb710641}
			for length := range 32 {
				masks = append(masks, 1|1<<length, 1|chance.Uint32()>>length)
			}
			for _, mask := range masks {
				turn(frame[8:], bit, mask)
				refused(t, fmt.Sprintf("a body of %d bytes, %08x turned from bit %d on", size, mask, bit), string(frame))
				turn(frame[8:], bit, mask)
			}
		}
	}
}

func TestEachPatternWithinTwoBytesIsSeen(t *testing.T) { // P2.5
	frame := []byte(slowFrame("ab"))
	for mask := uint32(1); mask < 1<<16; mask++ {
		turn(frame[8:], 0, mask)
		refused(t, fmt.Sprintf("%04x turned", mask), string(frame))
		turn(frame[8:], 0, mask)
	}
}

func TestRunsInALongBodyAreSeen(t *testing.T) { // P2.5
	chance := rand.New(rand.NewSource(3))
	frame := []byte(slowFrame(randomText(chance, api.MaxFrame)))
	for _, bit := range []int{0, 1, 8*api.MaxFrame/2 + 3, 8*api.MaxFrame - 32, 8*api.MaxFrame - 1} {
		mask := 1 | chance.Uint32()
		turn(frame[8:], bit, mask)
		refused(t, fmt.Sprintf("%08x turned from bit %d on", mask, bit), string(frame))
		turn(frame[8:], bit, mask)
	}
}

func FuzzWhatIsOpenedWasFramedSo(f *testing.F) { // P2.1 to P2.4, R1, R2, R6, W9
	f.Add("")
	f.Add(strings.Repeat("\x00", 8))
	f.Add(slowFrame("") + slowFrame("a") + "\x00\x00")
	f.Add("\x00\x10\x00\x01" + strings.Repeat("\x00", 20))
	f.Fuzz(func(t *testing.T, s string) {
		list, good := Scan(s)
		again := ""
		for _, body := range list {
			got, size, e := Open(s[len(again):])
			if got != body || size != 8+len(body) || e != api.OK {
				t.Fatalf("Open of %x at %d = %x, %d, %d; Scan says %x", s, len(again), got, size, e, body)
			}
			frame, _ := Frame(body)
			again += frame
		}
		if again != s[:good] {
			t.Errorf("Scan of %x = %x, %d; laid again: %x", s, list, good, again)
		}
		refused(t, fmt.Sprintf("what stands behind %d in %x", good, s), s[good:])
		frame, e := Frame(s)
		if e != api.OK || frame != slowFrame(s) {
			t.Fatalf("Frame(%x) = %x, %d", s, frame, e)
		}
		if body, size, e := Open(frame + s); body != s || size != len(frame) || e != api.OK {
			t.Errorf("Open of Frame(%x) = %x, %d, %d", s, body, size, e)
		}
	})
}

func TestAnswersAreNewMemory(t *testing.T) { // R5
	shares := func(part, whole string) bool {
		first := uintptr(unsafe.Pointer(unsafe.StringData(whole)))
		at := uintptr(unsafe.Pointer(unsafe.StringData(part)))
		return at >= first && at < first+uintptr(len(whole))
	}
	body := strings.Repeat("b", 40)
	frame, _ := Frame(body)
	all := frame + frame
	opened, _, _ := Open(all)
	list, _ := Scan(all)
	if opened != body || !slices.Equal(list, []string{body, body}) {
		t.Fatalf("Open = %q, Scan = %q", opened, list)
	}
	if shares(frame, body) || shares(body, frame) || shares(opened, all) || shares(list[0], all) || shares(list[1], all) {
		t.Error("what is answered shares its memory with what was handed in")
	}
	if shares(list[0], list[1]) {
		t.Error("two bodies share their memory")
	}
}

func TestPartsAreNotChanged(t *testing.T) { // R5
	parts := []string{"1234", "", "56789", "behind the end"}
	Sum(parts[:3]...)
	if !slices.Equal(parts, []string{"1234", "", "56789", "behind the end"}) {
		t.Errorf("the parts are now %q", parts)
	}
}
