package session

import (
	"encoding/binary"
	"fmt"
	"math"
	"math/rand"
	"slices"
	"strings"
	"testing"
	"unsafe"

	"acreage/api"
)

const (
	two40 = uint64(1099511627776)
	room  = 65536 // bytes of a session, and of a result's Value
)

func long(n int) string { return strings.Repeat("x", n) }

// short tells a thing whose texts may be long.
func short(x any) string {
	s := fmt.Sprintf("%+q", x)
	return s[:min(len(s), 300)]
}

// laidResult and laid are the bytes as the chapters word them, of a result and
// a Seq that may not be too.
func laidResult(r api.Result) string {
	b := binary.AppendUvarint(nil, uint64(r.Err))
	b = append(b, map[bool]byte{true: 1}[r.Found])
	b = append(binary.AppendUvarint(b, uint64(len(r.Row))), r.Row...)
	b = append(binary.AppendUvarint(b, uint64(len(r.Value))), r.Value...)
	return string(binary.AppendUvarint(b, r.Version))
}

func laid(seq uint64, r api.Result) string {
	return string(binary.AppendUvarint(nil, seq)) + laidResult(r)
}

func slowSeq(seq uint64) bool { return seq >= 1 && seq <= two40 }

func slowResult(r api.Result) bool {
	return r.Err >= 0 && r.Err <= 15 && len(r.Row) <= 32 && len(r.Value) <= 65536 && r.Version <= two40
}

// slowRead reads numbers in whatever form; what it read is whole only if it is
// laid as the same bytes.
func slowRead(cell string) (seq uint64, r api.Result, is bool) {
	rest, ok := []byte(cell), true
	number := func() uint64 {
		v, n := binary.Uvarint(rest)
		if n <= 0 {
			ok, n = false, 0
		}
		rest = rest[n:]
		return v
	}
	text := func() string {
		n := number()
		if n > uint64(len(rest)) {
			ok, n = false, 0
		}
		one := string(rest[:n])
		rest = rest[n:]
		return one
	}
	seq = number()
	r.Err = api.Errno(number())
	r.Found = number() == 1
	r.Row, r.Value = text(), text()
	r.Version = number()
	return seq, r, ok && len(rest) == 0 && len(cell) <= room && slowSeq(seq) && slowResult(r) && laid(seq, r) == cell
}

// looked is all that Look answers.
type looked struct {
	r     api.Result
	again bool
	e     api.Errno
}

func slowLook(cell string, seq uint64) looked {
	if !slowSeq(seq) {
		return looked{e: 2}
	}
	if cell == "" {
		return looked{}
	}
	in, r, is := slowRead(cell)
	if !is {
		return looked{e: 4}
	}
	if seq > in {
		return looked{}
	}
	if seq < in {
		return looked{e: 12}
	}
	return looked{r: r, again: true}
}

func slowPut(seq uint64, r api.Result) (string, api.Errno) {
	if !slowSeq(seq) || !slowResult(r) {
		return "", 2
	}
	if len(laid(seq, r)) > room {
		return "", 3
	}
	return laid(seq, r), 0
}

func look(cell string, seq uint64) looked {
	r, again, e := Look(cell, seq)
	return looked{r, again, e}
}

// looks holds Look against the words, and tells what it answers.
func looks(t *testing.T, cell string, seq uint64) looked {
	t.Helper()
	got, want := look(cell, seq), slowLook(cell, seq)
	if got != want {
		t.Fatalf("Look(%s, %d): %s, not %s", short(cell), seq, short(got), short(want))
	}
	return got
}

// puts holds Put against the words, and what it answers against Look.
func puts(t *testing.T, seq uint64, r api.Result) api.Errno {
	t.Helper()
	cell, e := Put(seq, r)
	want, wantE := slowPut(seq, r)
	if cell != want || e != wantE {
		t.Fatalf("Put(%d, %s): %s, %d, not %s, %d", seq, short(r), short(cell), e, short(want), wantE)
	}
	if e != api.OK {
		return e
	}
	for _, c := range []struct {
		seq  uint64
		want looked
	}{{seq, looked{r: r, again: true}}, {seq + 1, looked{}}, {seq - 1, looked{e: api.ErrStale}}} {
		if !slowSeq(c.seq) {
			c.want = looked{e: api.ErrArg}
		}
		if got := looks(t, cell, c.seq); got != c.want {
			t.Fatalf("put with %d, looked up with %d: %s", seq, c.seq, short(got))
		}
	}
	return api.OK
}

// Seqs, and such that are none.
var (
	someSeqs = []uint64{1, 2, 5, 127, 128, 129, 300, 16383, 16384, 1 << 32, two40 - 1, two40}
	noSeqs   = []uint64{0, two40 + 1, two40 + 2, two40 + 5, 1 << 41, 1<<63 - 1, 1 << 63, math.MaxUint64}
)

// goodResults are results that may be, plain and at their edges.
var goodResults = []api.Result{
	{},
	{Err: 1},
	{Err: 8},
	{Err: 15},
	{Found: true},
	{Row: "r"},
	{Row: "\x00\xff"},
	{Row: long(32)},
	{Value: "v"},
	{Value: "\x00"},
	{Value: long(127)},
	{Value: long(128)},
	{Value: long(256)},
	{Version: 1},
	{Version: 128},
	{Version: two40},
	{Found: true, Value: "v", Version: 3},
	{Err: 15, Found: true, Row: long(32), Value: long(256), Version: two40},
}

// badResults are results that may not be, by one field.
var badResults = []api.Result{
	{Err: 16},
	{Err: 17},
	{Err: 128},
	{Err: -1},
	{Err: math.MinInt},
	{Err: math.MaxInt},
	{Err: 1 << 32},
	{Row: long(33)},
	{Row: long(room)},
	{Version: two40 + 1},
	{Version: math.MaxUint64},
	{Value: long(room + 1)},
	{Value: long(2 * room)},
	{Err: 16, Found: true, Row: "r", Value: "v", Version: 3},
}

func TestTheChaptersExamples(t *testing.T) { // P17.1 to P17.3
	that, e := Put(5, api.Result{})
	if that != "\x05\x00\x00\x00\x00\x00" || e != api.OK {
		t.Fatalf("Put: %x, %d", that, e)
	}
	for _, c := range []struct {
		cell string
		seq  uint64
		want looked
	}{
		{"", 1, looked{}},
		{that, 6, looked{}},
		{that, 5, looked{again: true}},
		{that, 4, looked{e: api.ErrStale}},
		{that, 0, looked{e: api.ErrArg}},
		{that, 1<<40 + 1, looked{e: api.ErrArg}},
		{"x", 1, looked{e: api.ErrForm}},
		{that + "\x00", 6, looked{e: api.ErrForm}},
		{that + "x", 6, looked{e: api.ErrForm}},
	} {
		if got := look(c.cell, c.seq); got != c.want {
			t.Errorf("Look(%x, %d): %s", c.cell, c.seq, short(got))
		}
	}
	for _, c := range []struct {
		seq uint64
		r   api.Result
	}{{0, api.Result{}}, {1, api.Result{Err: 16}}} {
		if s, e := Put(c.seq, c.r); s != "" || e != api.ErrArg {
			t.Errorf("Put(%d, %+v): %x, %d", c.seq, c.r, s, e)
		}
	}
	for client, want := range map[int]string{0: "s0", 3: "s3", 4: "", -1: ""} {
		if s := Col(client); s != want {
			t.Errorf("Col(%d) = %q", client, s)
		}
	}
}

func TestSessionsAsBytes(t *testing.T) { // P17.2, W9: written down by hand
	for want, c := range map[string]struct {
		seq uint64
		r   api.Result
	}{
		"\x01\x00\x00\x00\x00\x00":                             {1, api.Result{}},
		"\x7f\x05\x00\x00\x00\x00":                             {127, api.Result{Err: 5}},
		"\x80\x01\x00\x01\x00\x01v\x03":                        {128, api.Result{Found: true, Value: "v", Version: 3}},
		"\xac\x02\x0f\x01\x02rr\x00\x80\x01":                   {300, api.Result{Err: 15, Found: true, Row: "rr", Version: 128}},
		"\x80\x80\x80\x80\x80\x20\x00\x00\x00\x00\x00":         {two40, api.Result{}},
		"\xff\xff\xff\xff\xff\x1f\x00\x00\x00\x00\x00":         {two40 - 1, api.Result{}},
		"\x02\x00\x00\x00\x00\x80\x80\x80\x80\x80\x20":         {2, api.Result{Version: two40}},
		"\x02\x0d\x00\x00\x80\x01" + long(128) + "\x00":        {2, api.Result{Err: 13, Value: long(128)}},
		"\x02\x00\x01\x20" + long(32) + "\x03\x00\xff\x0a\x07": {2, api.Result{Found: true, Row: long(32), Value: "\x00\xff\n", Version: 7}},
	} {
		if s, e := Put(c.seq, c.r); s != want || e != api.OK {
			t.Errorf("Put(%d, %s): %x, %d", c.seq, short(c.r), s, e)
		}
		if got := look(want, c.seq); got != (looked{r: c.r, again: true}) {
			t.Errorf("Look(%x, %d): %s", want, c.seq, short(got))
		}
	}
}

func TestEachResultWithEachSeq(t *testing.T) { // P17.1, P17.2, P17.4
	for _, seq := range slices.Concat(someSeqs, noSeqs) {
		for _, r := range goodResults {
			if e := puts(t, seq, r); (e == api.OK) != slices.Contains(someSeqs, seq) {
				t.Errorf("Put(%d, %s): %d", seq, short(r), e)
			}
		}
		for _, r := range badResults {
			if e := puts(t, seq, r); e != api.ErrArg {
				t.Errorf("Put(%d, %s): %d", seq, short(r), e)
			}
		}
	}
}

func TestBytesOfTheMostThatMayBe(t *testing.T) { // P17.1, P17.2: MaxCell in all, and more
	for _, seq := range someSeqs {
		for _, r := range goodResults {
			r.Value = ""
			// A Value of so many bytes has a length of three bytes, instead of one.
			most := room - len(laid(seq, r)) - 2
			for more, want := range map[int]api.Errno{-2: 0, -1: 0, 0: 0, 1: api.ErrLong, 2: api.ErrLong} {
				r.Value = long(most + more)
				cell := laid(seq, r)
				if len(cell) != room+more {
					t.Fatalf("%d bytes, not %d", len(cell), room+more)
				}
				if e := puts(t, seq, r); e != want {
					t.Errorf("%d bytes are put: %d", len(cell), e)
				}
				form, same := looked{e: api.ErrForm}, looked{e: api.ErrForm}
				if more <= 0 {
					form, same = looked{}, looked{r: r, again: true}
				}
				if got := looks(t, cell, seq); got != same {
					t.Errorf("%d bytes are looked up: %s", len(cell), short(got))
				}
				if got := looks(t, cell, seq+1); seq < two40 && got != form {
					t.Errorf("%d bytes are looked up with one above: %s", len(cell), short(got))
				}
			}
		}
	}
}

func TestResultsThatMayBeAndAreTooLong(t *testing.T) { // P17.1, P17.2
	greatest := api.Result{Err: 15, Found: true, Row: long(32), Value: long(room), Version: two40}
	for _, r := range []api.Result{greatest, {Value: long(room)}, {Value: long(room - 1)}, {Row: long(32), Value: long(room - 32)}} {
		for _, seq := range someSeqs {
			if s, e := Put(seq, r); s != "" || e != api.ErrLong {
				t.Errorf("Put(%d, %s): %s, %d", seq, short(r), short(s), e)
			}
			for _, with := range []uint64{seq, seq + 1, seq - 1} {
				looks(t, laid(seq, r), with)
			}
			if got := look(laid(seq, r), seq); got != (looked{e: api.ErrForm}) {
				t.Errorf("Look(%d): %s", seq, short(got))
			}
		}
		for _, seq := range noSeqs {
			if s, e := Put(seq, r); s != "" || e != api.ErrArg {
				t.Errorf("Put(%d, %s): %s, %d", seq, short(r), short(s), e)
			}
		}
	}
}

func TestResultsThatMayNotBeAndAreTooLong(t *testing.T) { // P17.2: ErrArg goes ahead of ErrLong
	for _, r := range []api.Result{
		{Value: long(room + 1)},
		{Row: long(room + 1)},
		{Row: long(33), Value: long(room)},
		{Err: 16, Value: long(room)},
		{Err: -1, Value: long(room)},
		{Version: two40 + 1, Value: long(room)},
	} {
		for _, seq := range slices.Concat(someSeqs, noSeqs) {
			if s, e := Put(seq, r); s != "" || e != api.ErrArg {
				t.Errorf("Put(%d, %s): %s, %d", seq, short(r), short(s), e)
			}
		}
	}
}

func TestAResultWithEachFieldAtItsGreatest(t *testing.T) { // P17.1, P17.2
	most := api.Result{Err: 15, Found: true, Row: long(32), Version: two40}
	// 6 + 1 + 1 + 33 + 3 + n + 6 bytes
	most.Value = long(room - 50)
	if e := puts(t, two40, most); e != api.OK {
		t.Errorf("it is not put: %d", e)
	}
	most.Value += "x"
	if e := puts(t, two40, most); e != api.ErrLong {
		t.Errorf("with one more it is put: %d", e)
	}
}

func TestNoBytes(t *testing.T) { // P17.1: nothing was answered yet
	for _, seq := range someSeqs {
		if got := looks(t, "", seq); got != (looked{}) {
			t.Errorf("Look of nothing with %d: %s", seq, short(got))
		}
	}
	for _, seq := range noSeqs {
		if got := looks(t, "", seq); got != (looked{e: api.ErrArg}) {
			t.Errorf("Look of nothing with %d: %s", seq, short(got))
		}
	}
}

func TestEachSeqBesideEachOther(t *testing.T) { // P17.1: above, the same, below
	r := api.Result{Found: true, Row: "a", Value: "v", Version: 3}
	for _, in := range someSeqs {
		for _, near := range someSeqs {
			for _, seq := range []uint64{near - 1, near, near + 1, in - 1, in, in + 1} {
				want := looked{e: api.ErrArg}
				switch {
				case seq == 0 || seq == two40+1:
				case seq == in:
					want = looked{r: r, again: true}
				case seq < in:
					want = looked{e: api.ErrStale}
				default:
					want = looked{}
				}
				if got := looks(t, laid(in, r), seq); got != want {
					t.Errorf("%d in the bytes, %d handed in: %s", in, seq, short(got))
				}
			}
		}
	}
}

func TestResultsThatAreLikeNone(t *testing.T) { // P17.1: again, though each field of it is zero
	for _, r := range []api.Result{{}, {Err: api.ErrStale}, {Err: api.ErrForm}, {Err: api.ErrArg}} {
		for _, seq := range someSeqs {
			if got := looks(t, laid(seq, r), seq); got != (looked{r: r, again: true}) {
				t.Errorf("%+v is looked up with %d: %s", r, seq, short(got))
			}
		}
	}
}

// handed are Seqs to look bytes up with: such as are alike the one in them, in
// whatever form it stands there, and others.
func handed(in uint64) []uint64 {
	return slices.Concat([]uint64{in - 1, in, in + 1, in & 0x7f}, someSeqs, noSeqs)
}

// refused sees to it that the bytes are no session's, whatever they are looked
// up with.
func refused(t *testing.T, cell string, in uint64) {
	t.Helper()
	for _, seq := range handed(in) {
		want := looked{e: api.ErrForm}
		if !slowSeq(seq) {
			want.e = api.ErrArg
		}
		if got := looks(t, cell, seq); got != want {
			t.Fatalf("Look(%s, %d): %s", short(cell), seq, short(got))
		}
	}
}

func TestBytesWithASeqThatIsNone(t *testing.T) { // P17.1
	for _, in := range noSeqs {
		for _, r := range goodResults {
			refused(t, laid(in, r), in)
		}
	}
}

func TestBytesWithAResultThatMayNotBe(t *testing.T) { // P17.1
	for _, in := range someSeqs {
		for _, r := range badResults {
			refused(t, laid(in, r), in)
		}
		for _, flag := range []string{"\x02", "\x03", "\x7f", "\x80", "\xff", "\x80\x00", "\x81\x00"} {
			refused(t, string(binary.AppendUvarint(nil, in))+"\x00"+flag+"\x00\x00\x00", in)
		}
	}
}

func TestBytesThatAreCut(t *testing.T) { // P17.1: anywhere, at either end
	for _, in := range someSeqs {
		for _, r := range goodResults {
			cell := laid(in, r)
			for n := 1; n < len(cell); n++ {
				refused(t, cell[:n], in)
			}
			for n := 1; n <= len(cell); n++ {
				// What is left of a long number, and all behind, may be a session's.
				for _, seq := range handed(in) {
					looks(t, cell[n:], seq)
				}
			}
		}
	}
}

func TestBytesWithMoreBehind(t *testing.T) { // P17.1
	for _, in := range someSeqs {
		for _, r := range goodResults {
			cell := laid(in, r)
			for _, more := range []string{"\x00", "\x01", "\x7f", "\x80", "\xff", "x", "\x00\x00", laidResult(r), cell} {
				refused(t, cell+more, in)
			}
		}
	}
	for b := range 256 {
		refused(t, laid(5, api.Result{})+string([]byte{byte(b)}), 5)
	}
}

func TestBytesWithMoreAhead(t *testing.T) { // P17.1
	for _, in := range someSeqs {
		for _, r := range goodResults {
			for b := range 256 {
				cell := string([]byte{byte(b)}) + laid(in, r)
				for _, seq := range []uint64{in, uint64(b), in<<7 | uint64(b&0x7f), two40} {
					looks(t, cell, seq)
				}
			}
		}
	}
}

// longer lays v in more bytes than it wants.
func longer(v uint64, more int) string {
	b := binary.AppendUvarint(nil, v)
	b[len(b)-1] |= 0x80
	for range more - 1 {
		b = append(b, 0x80)
	}
	return string(append(b, 0))
}

func TestNumbersInMoreBytesThanTheyWant(t *testing.T) { // P17.1
	for _, in := range slices.Concat(someSeqs, noSeqs) {
		for more := 1; more < 12; more++ {
			for _, r := range goodResults {
				refused(t, longer(in, more)+laidResult(r), in)
			}
			its := string(binary.AppendUvarint(nil, in))
			for _, cell := range []string{
				its + longer(5, more) + "\x00\x00\x00\x00",
				its + "\x00\x00" + longer(0, more) + "\x00\x00",
				its + "\x00\x00\x00" + longer(1, more) + "v\x00",
				its + "\x00\x00\x00\x00" + longer(3, more),
			} {
				refused(t, cell, in)
			}
		}
	}
}

func TestASeqAndNoResult(t *testing.T) { // P17.1
	for _, in := range slices.Concat(someSeqs, noSeqs) {
		refused(t, string(binary.AppendUvarint(nil, in)), in)
	}
	for _, r := range goodResults {
		// A result and no Seq: where its Err is taken for one, too little is
		// left behind, unless a Row stands there.
		if r.Row == "" {
			refused(t, laidResult(r), 1)
		}
	}
}

func TestASeqThatIsNoneGoesFirst(t *testing.T) { // P17.1, P17.2, R2
	for _, seq := range noSeqs {
		for _, cell := range []string{"", "x", "\x00", "\x80", "\x00\x00\x00\x00\x00\x00", laid(5, api.Result{}) + "\x00", laid(seq, api.Result{}), laid(5, badResults[0]), long(room), long(room + 1), laid(5, api.Result{Value: long(room)})} {
			if got := look(cell, seq); got != (looked{e: api.ErrArg}) {
				t.Errorf("Look(%s, %d): %s", short(cell), seq, short(got))
			}
		}
	}
}

func TestBytesThatAreTurned(t *testing.T) { // P17.1: each byte into each other
	for _, in := range []uint64{1, 5, 128, 300, two40} {
		for _, r := range goodResults {
			b := []byte(laid(in, r))
			if len(b) > 60 {
				continue
			}
			for i, was := range b {
				for other := range 256 {
					b[i] = byte(other)
					seq, _ := binary.Uvarint(b)
					for _, with := range []uint64{in, seq, seq - 1, seq + 1} {
						looks(t, string(b), with)
					}
				}
				b[i] = was
			}
		}
	}
}

func TestAllSmallBytes(t *testing.T) { // P17.1: all of some few
	alphabet := "\x00\x01\x02\x0f\x10\x80\xff"
	again := 0
	var all func(s string, n int)
	all = func(s string, n int) {
		seq, _ := binary.Uvarint([]byte(s))
		if looks(t, s, seq).again {
			again++
		}
		looks(t, s, 1)
		looks(t, s, 15)
		for i := 0; n > 0 && i < len(alphabet); i++ {
			all(s+alphabet[i:i+1], n-1)
		}
	}
	all("", 6)
	// Of six bytes: 4 Seqs, 4 errors, 2 bools, no Row, no Value, 5 versions.
	if again != 4*4*2*5 {
		t.Errorf("%d are sessions' bytes", again)
	}
}

func TestCol(t *testing.T) { // P17.3
	want := map[int]string{0: "s0", 1: "s1", 2: "s2", 3: "s3"}
	clients := []int{math.MinInt, math.MinInt + 1, -1 << 40, -1 << 32, 1<<32 - 1, 1 << 32, 1<<32 + 1, 1 << 40, math.MaxInt - 1, math.MaxInt}
	for client := -300; client <= 300; client++ {
		clients = append(clients, client)
	}
	for _, client := range clients {
		if s := Col(client); s != want[client] {
			t.Errorf("Col(%d) = %q", client, s)
		}
	}
}

// keeper keeps what clients were answered last, as the one does that is asked.
type keeper struct {
	cells map[string]string
	done  map[string]map[uint64]api.Result // by columns and Seqs: what was answered anew
	last  map[string]uint64
	count uint64
}

func newKeeper() *keeper {
	return &keeper{cells: map[string]string{}, done: map[string]map[uint64]api.Result{}, last: map[string]uint64{}}
}

// ask answers a client, as the chapter says, and holds what was looked up
// against all that was answered before.
func (k *keeper) ask(t *testing.T, client int, seq uint64) {
	t.Helper()
	col := Col(client)
	if k.done[col] == nil {
		k.done[col] = map[uint64]api.Result{}
	}
	was, twice := k.done[col][seq]
	got := looks(t, k.cells[col], seq)
	switch {
	case got.e == api.ErrStale:
		if seq >= k.last[col] {
			t.Fatalf("the client %d asks %d, behind %d, and it is stale", client, seq, k.last[col])
		}
	case got.e != api.OK:
		t.Fatalf("the client %d asks %d: %d", client, seq, got.e)
	case got.again:
		if !twice || got.r != was || seq != k.last[col] {
			t.Fatalf("the client %d asks %d, behind %d: %+v, not %+v", client, seq, k.last[col], got.r, was)
		}
	case twice || seq <= k.last[col]:
		t.Fatalf("the client %d asks %d, behind %d, and it is done again", client, seq, k.last[col])
	default:
		k.answer(t, col, seq)
	}
}

// answer puts an answer that differs from all others.
func (k *keeper) answer(t *testing.T, col string, seq uint64) {
	t.Helper()
	k.count++
	r := api.Result{Err: api.Errno(k.count % 16), Found: k.count%2 == 0, Version: k.count}
	cell, e := Put(seq, r)
	if e != api.OK {
		t.Fatalf("Put(%d): %d", seq, e)
	}
	k.cells[col], k.done[col][seq], k.last[col] = cell, r, seq
}

func TestAllRowsOfAFewAsks(t *testing.T) { // P17.4
	seqs := []uint64{1, 2, 3, 128}
	var all func(asked []uint64)
	all = func(asked []uint64) {
		k := newKeeper()
		for _, seq := range asked {
			k.ask(t, 0, seq)
		}
		if len(asked) < 6 {
			for _, seq := range seqs {
				all(append(slices.Clone(asked), seq))
			}
		}
	}
	all(nil)
}

func TestRowsOfAsksInAnyOrder(t *testing.T) { // P17.4: of all clients, each Seq several times
	for from := range int64(200) {
		r := rand.New(rand.NewSource(from))
		first := []uint64{1, 120, 16380, two40 - 19}[r.Intn(4)]
		k := newKeeper()
		type one struct {
			client int
			seq    uint64
		}
		var asks []one
		for client := range api.MaxClients {
			for i := range uint64(20) {
				asks = append(asks, slices.Repeat([]one{{client, first + i}}, 1+r.Intn(4))...)
			}
		}
		// Some rows are nearly in order, as those are that a network delays; in
		// others nothing is.
		near := []int{1, 3, 10, len(asks)}[r.Intn(4)]
		slices.SortStableFunc(asks, func(a, b one) int { return int(a.seq) - int(b.seq) })
		for i := range asks {
			j := min(i+r.Intn(near), len(asks)-1)
			asks[i], asks[j] = asks[j], asks[i]
		}
		for _, a := range asks {
			k.ask(t, a.client, a.seq)
		}
	}
}

func TestLesserOnesAreStaleForGood(t *testing.T) { // P17.4
	cell := ""
	for seq := uint64(1); seq <= 300; seq++ {
		if got := looks(t, cell, seq); got != (looked{}) {
			t.Fatalf("%d is not new: %s", seq, short(got))
		}
		next, e := Put(seq, api.Result{Version: seq})
		if cell = next; e != api.OK {
			t.Fatal(e)
		}
		for old := uint64(1); old < seq; old++ {
			if got := looks(t, cell, old); got != (looked{e: api.ErrStale}) {
				t.Fatalf("%d is not stale behind %d: %s", old, seq, short(got))
			}
		}
	}
}

func TestGreaterOnesAreNewTillTheyArePut(t *testing.T) { // P17.4, R6: looking up takes nothing
	cell, _ := Put(7, api.Result{Value: "v"})
	for range 5 {
		for _, c := range []struct {
			seq  uint64
			want looked
		}{{8, looked{}}, {two40, looked{}}, {7, looked{r: api.Result{Value: "v"}, again: true}}, {6, looked{e: api.ErrStale}}} {
			if got := looks(t, cell, c.seq); got != c.want {
				t.Errorf("Look(%d): %s", c.seq, short(got))
			}
		}
	}
}

// over is a text that changes with b.
func over(b []byte) string { return unsafe.String(unsafe.SliceData(b), len(b)) }

func TestWhatIsHandedInIsNotKept(t *testing.T) { // R5
	want := api.Result{Found: true, Row: "row", Value: "value", Version: 3}
	raw := []byte(laid(300, want))
	r, again, e := Look(over(raw), 300)
	if string(raw) != laid(300, want) {
		t.Errorf("the bytes are changed: %x", raw)
	}
	clear(raw)
	if r != want || !again || e != api.OK {
		t.Errorf("%+v changes with the bytes", r)
	}

	row, value := []byte("row"), []byte("value")
	cell, e := Put(300, api.Result{Found: true, Row: over(row), Value: over(value), Version: 3})
	if string(row) != "row" || string(value) != "value" {
		t.Errorf("the texts are changed: %q, %q", row, value)
	}
	clear(row)
	clear(value)
	if cell != laid(300, want) || e != api.OK {
		t.Errorf("%x changes with the texts", cell)
	}
}

// shares says whether one of the two begins within the other one.
func shares(a, b string) bool {
	begins := func(s string) uintptr { return uintptr(unsafe.Pointer(unsafe.StringData(s))) }
	return begins(a) < begins(b)+uintptr(len(b)) && begins(b) < begins(a)+uintptr(len(a))
}

func TestAnswersAreNewMemory(t *testing.T) { // R5
	for _, n := range []int{1, 5, 200, 60000} {
		given := api.Result{Row: strings.Clone("row"), Value: long(n), Version: 3}
		one, _ := Put(300, given)
		two, _ := Put(300, given)
		r, _, _ := Look(one, 300)
		s, _, _ := Look(one, 300)
		seen := []string{given.Row, given.Value, one, two, r.Row, r.Value, s.Row, s.Value}
		for i, a := range seen {
			for j, b := range seen[:i] {
				if shares(a, b) {
					t.Errorf("with %d bytes %d shares with %d", n, i, j)
				}
			}
		}
	}
	if a, b := Col(1), Col(1); shares(a, b) {
		t.Error("two columns share their bytes")
	}
}

func TestTheSameIsAnsweredAgain(t *testing.T) { // R6: whatever was asked between
	for range 3 {
		for _, seq := range someSeqs {
			for i, r := range goodResults {
				puts(t, seq, r)
				puts(t, noSeqs[i%len(noSeqs)], r)
				puts(t, seq, badResults[i%len(badResults)])
				refused(t, laid(seq, r)+"\x00", seq)
			}
		}
	}
}

func TestHugeThings(t *testing.T) { // R1
	for _, b := range []string{"\x00", "\x01", "\x7f", "\x80", "\xff"} {
		s := strings.Repeat(b, 1<<24)
		for _, cell := range []string{s, "\x01" + s, laid(5, api.Result{}) + s, "\x05\x00\x00\x00\x80\x80\x80\x20" + s} {
			for seq, want := range map[uint64]api.Errno{1: api.ErrForm, 5: api.ErrForm, 0: api.ErrArg} {
				if got := look(cell, seq); got != (looked{e: want}) {
					t.Errorf("many %x, looked up with %d: %d", b, seq, got.e)
				}
			}
		}
		for _, r := range []api.Result{{Value: s}, {Row: s}} {
			if s, e := Put(5, r); s != "" || e != api.ErrArg {
				t.Errorf("many %x are put: %d", b, e)
			}
		}
	}
}

func TestCountsThatLie(t *testing.T) { // P17.1, R1: texts that are not there
	for _, n := range []uint64{1, 2, 32, 33, 127, 128, room - 1, room, room + 1, 1 << 20, 1 << 31, 1 << 32, 1 << 62, 1 << 63, math.MaxUint64} {
		count := string(binary.AppendUvarint(nil, n))
		for _, behind := range []string{"", "\x00", "\x00\x00", "v\x00", "v\x00\x00"} {
			for _, ahead := range []string{"\x05\x00\x00", "\x05\x00\x00\x00"} {
				looks(t, ahead+count+behind, 5)
				looks(t, ahead+count+behind, 6)
			}
		}
	}
}

func TestAnySeqsAndResults(t *testing.T) { // P17.1, P17.2, P17.4
	r := rand.New(rand.NewSource(17))
	seqs := slices.Concat(someSeqs, noSeqs)
	results := slices.Concat(goodResults, badResults)
	for range 20000 {
		one, other := results[r.Intn(len(results))], results[r.Intn(len(results))]
		one.Row, one.Version = other.Row, other.Version
		seq := seqs[r.Intn(len(seqs))]
		if r.Intn(2) == 0 {
			seq = r.Uint64() >> r.Intn(64)
		}
		puts(t, seq, one)
		cell := laid(seq, one)
		at := r.Intn(len(cell))
		looks(t, cell[:at]+string([]byte{byte(r.Intn(256))})+cell[at+1:], seq)
		looks(t, cell, seqs[r.Intn(len(seqs))])
	}
}

func FuzzSessionsAreAsTheWordsSay(f *testing.F) { // P17.1 to P17.4, R1, R2
	for i, r := range goodResults {
		seq := someSeqs[i%len(someSeqs)]
		f.Add(laid(seq, r), seq, int(r.Err), r.Found, r.Row, r.Value, r.Version)
	}
	f.Add("", uint64(1), 16, false, "", "", uint64(0))
	f.Fuzz(func(t *testing.T, cell string, seq uint64, err int, found bool, row, value string, version uint64) {
		looks(t, cell, seq)
		if in, _, is := slowRead(cell); is {
			got := looks(t, cell, in)
			puts(t, in, got.r)
		}
		puts(t, seq, api.Result{Err: api.Errno(err), Found: found, Row: row, Value: value, Version: version})
	})
}
