package bloom

import (
	"encoding/hex"
	"fmt"
	"hash/fnv"
	"math"
	"math/big"
	"math/rand"
	"slices"
	"strings"
	"testing"
	"unsafe"

	"acreage/api"
)

// number reads a number as the chapter writes it.
func number(digits string) *big.Int {
	n, ok := new(big.Int).SetString(digits, 10)
	if !ok {
		panic(digits)
	}
	return n
}

var (
	slowFirst  = number("14695981039346656037")
	slowSecond = number("9521554427338878180")
	slowFactor = number("1099511628211")
	slowRound  = new(big.Int).Lsh(big.NewInt(1), 64)
)

// slowHash is a text's hash as the chapter words it, by numbers of any size.
func slowHash(text string, from *big.Int) *big.Int {
	n := new(big.Int).Set(from)
	for _, b := range []byte(text) {
		n.Xor(n, big.NewInt(int64(b)))
		n.Mul(n, slowFactor)
		n.Mod(n, slowRound)
	}
	return n
}

// slowPlaces are a key's places, of k and m.
func slowPlaces(key string, k, m int) (l []int) {
	first, second := slowHash(key, slowFirst), slowHash(key, slowSecond)
	for i := range k {
		n := new(big.Int).Mul(big.NewInt(int64(i)), second)
		n.Add(n, first)
		n.Mod(n, slowRound)
		n.Mod(n, big.NewInt(int64(m)))
		l = append(l, int(n.Int64()))
	}
	return l
}

// slowLay is the filter of which just these bits are 1.
func slowLay(k, size int, bits ...int) string {
	behind := make([]byte, size)
	for _, j := range bits {
		behind[j/8] |= byte(int(math.Pow(2, float64(j%8))))
	}
	return string([]byte{byte(k)}) + string(behind)
}

// slowMake is Make as P9.1 words it.
func slowMake(keys []string, bits int) (string, api.Errno) {
	if bits < 1 || bits > 32 {
		return "", api.ErrArg
	}
	if len(keys) > 32768 {
		return "", api.ErrLong
	}
	k := bits * 69 / 100
	if k < 1 {
		k = 1
	}
	if k > 8 {
		k = 8
	}
	size := 8
	for 8*size < bits*len(keys) {
		size++
	}
	var all []int
	for _, key := range keys {
		all = append(all, slowPlaces(key, k, 8*size)...)
	}
	return slowLay(k, size, all...), api.OK
}

func slowIs(filter string) bool {
	return len(filter) >= 9 && len(filter) <= 131073 && strings.Contains("\x01\x02\x03\x04\x05\x06\x07\x08", filter[:1])
}

// slowHas is Has as P9.2 words it.
func slowHas(filter, key string) bool {
	if !slowIs(filter) {
		return true
	}
	for _, j := range slowPlaces(key, int(filter[0]), 8*(len(filter)-1)) {
		if int(filter[1+j/8])/int(math.Pow(2, float64(j%8)))%2 == 0 {
			return false
		}
	}
	return true
}

// short tells bytes, or how many of them there are.
func short(s string) string {
	if len(s) > 40 {
		return fmt.Sprintf("%x.. (%d bytes)", s[:40], len(s))
	}
	return fmt.Sprintf("%x", s)
}

// same holds Make against the words, and tells the filter.
func same(t *testing.T, keys []string, bits int) string {
	t.Helper()
	filter, e := Make(keys, bits)
	want, wantE := slowMake(keys, bits)
	if filter != want || e != wantE {
		t.Fatalf("Make(%d keys, %d) = %s, %d, not %s, %d", len(keys), bits, short(filter), e, short(want), wantE)
	}
	return filter
}

// made is a filter of these keys, which must be one.
func made(t *testing.T, keys []string, bits int) string {
	t.Helper()
	filter, e := Make(keys, bits)
	if e != api.OK || Check(filter) != api.OK {
		t.Fatalf("Make(%d keys, %d) = %s, %d", len(keys), bits, short(filter), e)
	}
	return filter
}

func mustHas(t *testing.T, filter, key string, want bool) {
	t.Helper()
	if Has(filter, key) != want {
		t.Fatalf("Has(%s, %q) = %t", short(filter), key, !want)
	}
}

func mustCheck(t *testing.T, filter string, want api.Errno) {
	t.Helper()
	if e := Check(filter); e != want {
		t.Fatalf("Check(%s) = %d, not %d", short(filter), e, want)
	}
}

// many are as many keys, each another one.
func many(n int) (l []string) {
	for i := range n {
		l = append(l, fmt.Sprint("key", i))
	}
	return l
}

// odd are keys at the edges of what a text may be.
var odd = []string{
	"", "\x00", "\xff", "\x00\x00", "\xff\xff", "\x00\xff", "\xff\x00", "a", "A", "a\x00", "\x00a", "aa",
	"\x7f", "\x80", "\u00e4", "\u20ac", "\xc3", "\xe4\x80", strings.Repeat("\x00", 24), strings.Repeat("\xff", 24),
	strings.Repeat("k", 32), strings.Repeat("key", 100), "key0", "key1", "key10",
}

func TestTheChaptersExamples(t *testing.T) { // P9.1, P9.2
	zeros := strings.Repeat("\x00", 8)
	for _, c := range []struct {
		keys []string
		bits int
		want string
	}{
		{nil, 10, "\x06" + zeros},
		{nil, 32, "\x08" + zeros},
		{[]string{"a"}, 1, "\x01\x00\x10\x00\x00\x00\x00\x00\x00"},
	} {
		if filter, e := Make(c.keys, c.bits); filter != c.want || e != api.OK {
			t.Errorf("Make(%q, %d) = %x, %d, not %x", c.keys, c.bits, filter, e, c.want)
		}
	}
	for text, want := range map[string]uint64{"": 0xcbf29ce484222325, "a": 0xaf63dc4c8601ec8c} {
		if h := hashes(text, firstBase); !slices.Equal(h, []uint64{want}) {
			t.Errorf("the first hash of %q is %x, not %x", text, h, want)
		}
	}
	mustHas(t, made(t, []string{"a", "b"}, 10), "a", true)
	mustHas(t, made(t, nil, 10), "a", false)
	mustHas(t, "", "a", true)
	mustHas(t, "\x09"+zeros, "a", true)
	for _, bits := range []int{0, 33} {
		if filter, e := Make(nil, bits); filter != "" || e != api.ErrArg {
			t.Errorf("Make(none, %d) = %x, %d", bits, filter, e)
		}
	}
	for _, filter := range []string{"", "\x01" + zeros[1:], "\x00" + zeros} {
		mustCheck(t, filter, api.ErrForm)
	}
}

func TestFiltersWorkedOutElsewhere(t *testing.T) { // P9.1
	for _, c := range []struct {
		keys []string
		bits int
		want string
	}{
		{[]string{"a"}, 10, "06801f000000000000"},
		{[]string{""}, 32, "080002020222202020"},
		{[]string{"a", "b"}, 10, "06801f808020200008"},
		{[]string{"\x00", "\xff"}, 12, "0800882a8088409508"},
		{[]string{strings.Repeat("\x00\xff", 12)}, 3, "020002200000000000"},
		{[]string{"k0", "k1", "k2", "k3", "k4", "k5", "k6", "k7", "k8"}, 8, "05b0334aa864c88e3027"},
		{[]string{"k0", "k1", "k2", "k3", "k4", "k5", "k6"}, 11, "07929e2826262bc9f04222"},
	} {
		filter, e := Make(c.keys, c.bits)
		if got := hex.EncodeToString([]byte(filter)); got != c.want || e != api.OK {
			t.Errorf("Make(%q, %d) = %s, %d, not %s", c.keys, c.bits, got, e, c.want)
		}
	}
}

func TestHashesAreAsWorded(t *testing.T) { // P9.1, the chapter's Words
	for _, c := range []struct {
		text          string
		first, second uint64
	}{
		{"", 0xcbf29ce484222325, 0x84235b4de714ece4},
		{"a", 0xaf63dc4c8601ec8c, 0x9d00aa5fa88de5ff},
		{"\x00", 0xaf63bd4c8601b7df, 0x9d01095fa88e876c},
		{"\xff", 0xaf64724c8602eb6e, 0x9d00405fa88d31e1},
		{"acreage", 0x6182981799c67793, 0x45e7c00209cfc8cc},
		{"\u00e4", 0x0ac21207b7181582, 0x54c8a78b680f7053},
	} {
		if h := hashes(c.text, firstBase, secondBase); !slices.Equal(h, []uint64{c.first, c.second}) {
			t.Errorf("the hashes of %q are %x, not %x %x", c.text, h, c.first, c.second)
		}
	}
	for _, text := range odd {
		known := fnv.New64a()
		known.Write([]byte(text))
		want := []uint64{slowHash(text, slowSecond).Uint64(), known.Sum64(), slowHash(text, slowFirst).Uint64()}
		if h := hashes(text, secondBase, firstBase, firstBase); !slices.Equal(h, want) {
			t.Errorf("the hashes of %.20q are %x, not %x", text, h, want)
		}
	}
}

func TestHowManyPlacesAKeyHas(t *testing.T) { // P9.1
	ks := []byte{1, 1, 2, 2, 3, 4, 4, 5, 6, 6, 7} // of 1 to 11 bits; from 12 on 8
	for bits := 1; bits <= 32; bits++ {
		want := byte(8)
		if bits <= len(ks) {
			want = ks[bits-1]
		}
		for _, keys := range [][]string{nil, {"a"}, many(100)} {
			if filter := made(t, keys, bits); filter[0] != want {
				t.Errorf("of %d bits: k is %d, not %d", bits, filter[0], want)
			}
		}
	}
}

func TestHowManyBytesStandBehind(t *testing.T) { // P9.1
	for _, c := range []struct{ bits, keys, size int }{
		{1, 0, 8}, {1, 1, 8}, {1, 63, 8}, {1, 64, 8}, {1, 65, 9}, {1, 71, 9}, {1, 72, 9}, {1, 73, 10},
		{2, 31, 8}, {2, 32, 8}, {2, 33, 9}, {2, 36, 9}, {2, 37, 10},
		{3, 21, 8}, {3, 22, 9}, {3, 23, 9}, {3, 24, 9}, {3, 25, 10},
		{7, 9, 8}, {7, 10, 9}, {7, 15, 14}, {7, 16, 14}, {7, 17, 15},
		{8, 7, 8}, {8, 8, 8}, {8, 9, 9}, {8, 10, 10},
		{9, 7, 8}, {9, 8, 9}, {9, 9, 11},
		{10, 6, 8}, {10, 7, 9}, {10, 8, 10}, {10, 9, 12}, {10, 1023, 1279}, {10, 1024, 1280}, {10, 1025, 1282},
		{31, 2, 8}, {31, 3, 12}, {31, 7, 28}, {31, 8, 31}, {31, 9, 35},
		{32, 0, 8}, {32, 1, 8}, {32, 2, 8}, {32, 3, 12}, {32, 32767, 131068}, {32, 32768, 131072},
		{1, 32767, 4096}, {1, 32768, 4096}, {1, 32761, 4096}, {1, 32760, 4095}, {31, 32768, 126976}, {12, 32768, 49152},
	} {
		if filter := made(t, many(c.keys), c.bits); len(filter) != 1+c.size {
			t.Errorf("of %d bits and %d keys: %d bytes behind k, not %d", c.bits, c.keys, len(filter)-1, c.size)
		}
	}
}

func TestJustThePlacesOfTheKeysAre1(t *testing.T) { // P9.1, P9.2
	for bits := 1; bits <= 32; bits++ {
		for n := range 70 {
			same(t, many(n), bits)
		}
		for at, key := range odd {
			filter := same(t, []string{key}, bits)
			for _, other := range odd {
				mustHas(t, filter, other, slowHas(filter, other))
			}
			same(t, odd[:at], bits)
			same(t, append(odd[at:at+1:at+1], many(200)...), bits)
		}
	}
}

func TestAnyKeysMakeTheFilterOfTheWords(t *testing.T) { // P9.1, P9.2
	r := rand.New(rand.NewSource(9))
	for range 1500 {
		keys := make([]string, r.Intn(60))
		for i := range keys {
			b := make([]byte, r.Intn(25))
			r.Read(b)
			keys[i] = string(b)
		}
		filter := same(t, keys, r.Intn(40)-3)
		for range 5 {
			b := make([]byte, r.Intn(4))
			r.Read(b)
			mustHas(t, filter, string(b), slowHas(filter, string(b)))
		}
	}
}

func TestAsManyKeysAsMayBe(t *testing.T) { // P9.1 to P9.3, R1
	keys := many(1 << 15)
	for _, bits := range []int{1, 11, 32} {
		filter := same(t, keys, bits)
		mustCheck(t, filter, api.OK)
		for _, key := range keys {
			mustHas(t, filter, key, true)
		}
		for _, key := range odd {
			mustHas(t, filter, key, slowHas(filter, key))
		}
	}
	// One key, as often as may be.
	for _, key := range []string{"", "a"} {
		same(t, slices.Repeat([]string{key}, 1<<15), 32)
	}
}

func TestWhatMakeRefuses(t *testing.T) { // P9.1, R1, R2
	wrong := []int{0, -1, 33, 34, -32, 64, 255, 256, 257, 1<<32 + 10, -1<<32 + 10, 1 << 62, math.MaxInt, math.MinInt, math.MinInt + 10}
	tooMany := make([]string, 1<<15+1)
	for _, keys := range [][]string{nil, {}, {"a"}, many(100), make([]string, 1<<15), tooMany, make([]string, 1<<18)} {
		for _, bits := range wrong {
			if filter, e := Make(keys, bits); filter != "" || e != api.ErrArg {
				t.Errorf("Make(%d keys, %d) = %s, %d", len(keys), bits, short(filter), e)
			}
		}
	}
	for bits := 1; bits <= 32; bits++ {
		for _, keys := range [][]string{tooMany, many(1<<15 + 1), make([]string, 1<<16), make([]string, 1<<18)} {
			if filter, e := Make(keys, bits); filter != "" || e != api.ErrLong {
				t.Errorf("Make(%d keys, %d) = %s, %d", len(keys), bits, short(filter), e)
			}
		}
		if filter, e := Make(tooMany[:1<<15], bits); filter == "" || e != api.OK {
			t.Errorf("Make(%d keys, %d) = %s, %d", 1<<15, bits, short(filter), e)
		}
	}
}

func TestWhatIsAFilter(t *testing.T) { // P9.2, R1
	for _, size := range []int{0, 1, 6, 7, 8, 9, 10, 15, 16, 17, 255, 256, 257, 1 << 16, 1<<17 - 1, 1 << 17, 1<<17 + 1, 1<<17 + 8, 1 << 18, 1 << 20} {
		for _, fill := range []string{"\x00", "\xff", "\x05"} {
			behind := strings.Repeat(fill, size)
			for k := range 256 {
				filter := string([]byte{byte(k)}) + behind
				if k >= 1 && k <= 8 && size >= 8 && size <= 1<<17 {
					mustCheck(t, filter, api.OK)
					mustHas(t, filter, "a", slowHas(filter, "a"))
					continue
				}
				mustCheck(t, filter, api.ErrForm)
				for _, key := range []string{"", "a", "\x00\xff"} {
					mustHas(t, filter, key, true)
				}
			}
		}
	}
	mustCheck(t, "", api.ErrForm)
	for _, key := range odd {
		mustHas(t, "", key, true)
	}
}

func TestAllPlacesOfAKeyMustBe1(t *testing.T) { // P9.2
	for _, size := range []int{8, 9, 10, 11, 13, 100, 1<<17 - 1, 1 << 17} {
		for k := 1; k <= 8; k++ {
			ones := []byte(slowLay(k, size))
			for i := range size {
				ones[1+i] = 0xff
			}
			for _, key := range odd {
				all := slowPlaces(key, k, 8*size)
				mustHas(t, slowLay(k, size, all...), key, true)
				mustHas(t, slowLay(k, size), key, false)
				mustHas(t, string(ones), key, true)
				for _, j := range all {
					without := slices.DeleteFunc(slices.Clone(all), func(x int) bool { return x == j })
					mustHas(t, slowLay(k, size, without...), key, false)
					lacking := slices.Clone(ones)
					lacking[1+j/8] ^= 1 << (j % 8)
					mustHas(t, string(lacking), key, false)
				}
			}
		}
	}
}

func TestAFilterHasTheKeysOfWhichItWasMade(t *testing.T) { // P9.3
	for bits := 1; bits <= 32; bits++ {
		for _, keys := range [][]string{nil, {""}, odd, many(1), many(8), many(500), append(many(9), odd...)} {
			filter := made(t, keys, bits)
			for _, key := range keys {
				mustHas(t, filter, key, true)
			}
		}
	}
}

func TestAFilterLacksMostOtherKeys(t *testing.T) { // P9.2
	// What bits do is to lower these numbers; a filter that had all would be of no use.
	for bits, most := range map[int]int{4: 1800, 8: 350, 10: 140, 12: 60, 20: 10, 32: 4} {
		filter, wrong := made(t, many(1000), bits), 0
		for i := range 10000 {
			if Has(filter, fmt.Sprint("other", i)) {
				wrong++
			}
		}
		if wrong > most {
			t.Errorf("of %d bits: it has %d of 10000 keys of which it was not made", bits, wrong)
		}
	}
}

func TestTheOrderOfKeysChangesNothing(t *testing.T) { // P9.3
	r := rand.New(rand.NewSource(93))
	for bits := 1; bits <= 32; bits++ {
		keys := append(many(40), odd...)
		first := made(t, keys, bits)
		slices.Reverse(keys)
		if filter := made(t, keys, bits); filter != first {
			t.Errorf("of %d bits: from behind another filter", bits)
		}
		for range 20 {
			r.Shuffle(len(keys), func(i, j int) { keys[i], keys[j] = keys[j], keys[i] })
			if filter := made(t, keys, bits); filter != first {
				t.Fatalf("of %d bits: in another order another filter", bits)
			}
		}
	}
}

func TestAKeyToldTwiceChangesNothing(t *testing.T) { // P9.3
	for bits := 1; bits <= 32; bits++ {
		keys := append(many(20), odd...)
		first := made(t, append(slices.Clone(keys), keys[0]), bits)
		for at, key := range keys {
			for _, where := range []int{0, at, at + 1, len(keys)} {
				if filter := made(t, slices.Insert(slices.Clone(keys), where, key), bits); filter != first {
					t.Fatalf("of %d bits: with %.20q told twice another filter", bits, key)
				}
			}
		}
	}
	// So few that they have as many bytes anyway.
	if made(t, []string{"a"}, 10) != made(t, []string{"a", "a", "a", "a", "a", "a"}, 10) {
		t.Error("one key, told six times, makes another filter")
	}
}

func TestMoreKeysHaveAtLeastTheBits(t *testing.T) { // P9.3
	keys := append(slices.Clone(odd), many(100)...)
	compared := 0
	for bits := 1; bits <= 32; bits++ {
		for n := range keys {
			for more := n + 1; more <= len(keys); more++ {
				few, all := made(t, keys[:n], bits), made(t, keys[:more], bits)
				if len(few) != len(all) {
					break
				}
				compared++
				for i := range few {
					if few[i]&^all[i] != 0 {
						t.Fatalf("of %d bits: %d keys have a bit that %d keys lack", bits, n, more)
					}
				}
			}
		}
	}
	if compared < 3000 {
		t.Fatalf("only %d pairs had as many bytes", compared)
	}
}

func TestNoKeys(t *testing.T) { // P9.1, R4
	for bits := 1; bits <= 32; bits++ {
		filter := made(t, nil, bits)
		if filter[1:] != strings.Repeat("\x00", 8) || filter != made(t, []string{}, bits) || filter != made(t, odd[:0], bits) {
			t.Errorf("of %d bits and no keys: %x", bits, filter)
		}
		for _, key := range odd {
			mustHas(t, filter, key, false)
		}
	}
}

func TestWhatIsHandedInIsNotChanged(t *testing.T) { // R5
	whole := slices.Concat(many(10), odd, many(10))
	was := slices.Clone(whole)
	for bits := -1; bits <= 34; bits++ {
		for _, keys := range [][]string{whole, whole[5:20], whole[:0], whole[3:3], whole[5:20:20]} {
			Make(keys, bits)
			if !slices.Equal(whole, was) {
				t.Fatalf("of %d bits: the keys, or those behind them, were changed", bits)
			}
		}
	}
}

// over is a text over the bytes themselves, which go on being changed.
func over(b []byte) string { return unsafe.String(unsafe.SliceData(b), len(b)) }

func TestWhatIsHandedInIsNotKept(t *testing.T) { // R5
	key := []byte("some key")
	keys := []string{over(key), "other"}
	filter := made(t, keys, 10)
	was := strings.Clone(filter)
	for i := range key {
		key[i] = 'x'
	}
	keys[1] = "another one"
	if filter != was {
		t.Error("a filter changes with the keys of which it was made")
	}
	mustHas(t, filter, "some key", true)
	mustHas(t, filter, "other", true)

	raw := []byte(was)
	mustHas(t, over(raw), "other", true)
	clear(raw[1:])
	mustHas(t, over(raw), "other", false)
	raw[0] = 0
	mustCheck(t, over(raw), api.ErrForm)
	mustHas(t, over(raw), "other", true)
}

func TestAnswersAreNewMemory(t *testing.T) { // R5
	for _, keys := range [][]string{nil, {"a"}, many(1000)} {
		one, other := made(t, keys, 10), made(t, keys, 10)
		if unsafe.StringData(one) == unsafe.StringData(other) {
			t.Errorf("two filters of %d keys share their memory", len(keys))
		}
	}
}

func TestTheSameAsksAreAnsweredTheSame(t *testing.T) { // R6
	keys := append(many(50), odd...)
	for bits := 1; bits <= 32; bits++ {
		first := made(t, keys, bits)
		// Nothing that was asked in between, nor the room behind, may tell.
		Make(many(7), 33-bits)
		Has(first, "between")
		roomy := append(make([]string, 0, 200), keys...)
		for _, l := range [][]string{keys, roomy, slices.Clip(roomy)} {
			if made(t, l, bits) != first {
				t.Fatalf("of %d bits: asked again another filter", bits)
			}
		}
	}
}

func TestLongKeysAreHashedInTime(t *testing.T) { // R1
	long := strings.Repeat("\x00key\xff", 1<<22)
	filter := made(t, []string{long, long[1:]}, 32)
	mustHas(t, filter, long, true)
	mustHas(t, filter, long[1:], true)
	mustHas(t, made(t, nil, 32), long, false)
}

func FuzzFiltersAreAsTheWordsSay(f *testing.F) { // P9.1 to P9.3, R1, R2
	f.Add("a,b", 10, "\x06\x80\x1f\x80\x80\x20\x20\x00\x08", "a")
	f.Add("", 0, "", "")
	f.Add(",,\x00,\xff", 32, "\x09\x00\x00\x00\x00\x00\x00\x00\x00", "\x00")
	f.Add("k", 1, "\x01\x00\x10\x00\x00\x00\x00\x00\x00\x00", "k")
	f.Fuzz(func(t *testing.T, told string, bits int, any, key string) {
		mustHas(t, any, key, slowHas(any, key))
		if is := Check(any) == api.OK; is != slowIs(any) {
			t.Fatalf("Check(%s): %t", short(any), is)
		}
		keys := strings.Split(told, ",")
		filter := same(t, keys, bits)
		if filter == "" {
			return
		}
		mustCheck(t, filter, api.OK)
		mustHas(t, filter, key, slowHas(filter, key))
		for _, x := range keys {
			mustHas(t, filter, x, true)
		}
	})
}
