package ops

import (
	"encoding/binary"
	"encoding/hex"
	"fmt"
	"math"
	"math/rand"
	"reflect"
	"slices"
	"strings"
	"testing"
	"unsafe"

	"acreage/api"
	"acreage/model"
)

const two40 = uint64(1099511627776)

func long(n int) string { return strings.Repeat("x", n) }

// named tells for each field that a row of the chapter's tables names whether
// it holds what stands there.
type named map[string]func(v any) bool

func within(low, high int) func(any) bool {
	return func(v any) bool { return v.(int) >= low && v.(int) <= high }
}

func counted(low, high uint64) func(any) bool {
	return func(v any) bool { return v.(uint64) >= low && v.(uint64) <= high }
}

func bytesFrom(low, high int) func(any) bool {
	return func(v any) bool { return len(v.(string)) >= low && len(v.(string)) <= high }
}

var (
	aClient = within(0, 3)
	aGroup  = within(0, 11)
	aNode   = within(0, 4)
	aHint   = within(-1, 4)
	aStep   = within(0, 100)
	aSeq    = counted(1, two40)
	anEpoch = counted(0, two40)
	aPlace  = counted(0, two40) // an index, a term in messages
)

func anOp(v any) bool   { return model.Check(v.(api.Op)) == api.OK }
func anErr(v any) bool  { return v.(api.Errno) >= 0 && v.(api.Errno) <= 15 }
func anyFlag(any) bool  { return true }
func someKind(any) bool { return true }

// fits says whether the fields of the struct x hold what the row says of them,
// and all others are zero.
func fits(x any, row named) bool {
	v := reflect.ValueOf(x)
	for i := range v.NumField() {
		f := v.Field(i)
		if may, is := row[v.Type().Field(i).Name]; is {
			if !may(f.Interface()) {
				return false
			}
		} else if !(f.IsZero() || f.Kind() == reflect.Slice && f.Len() == 0 || f.Kind() == reflect.Struct && fits(f.Interface(), nil)) {
			return false
		}
	}
	return true
}

func slowCmd(x any) bool {
	c := x.(api.Cmd)
	switch c.Kind {
	case 0:
		return fits(c, nil)
	case 1:
		return fits(c, named{"Kind": someKind, "Client": aClient, "Seq": aSeq, "Epoch": anEpoch, "Op": anOp})
	case 2, 4:
		return fits(c, named{"Kind": someKind, "Proc": aSeq, "Step": aStep, "Epoch": anEpoch})
	case 3:
		return fits(c, named{"Kind": someKind, "Proc": aSeq, "Step": aStep, "Epoch": anEpoch, "Key": bytesFrom(1, 24), "Group": within(4, 11)})
	case 5:
		return fits(c, named{"Kind": someKind, "Proc": aSeq, "Step": aStep, "Key": bytesFrom(1, 32), "Value": bytesFrom(0, 256)})
	case 6:
		return fits(c, named{"Kind": someKind, "Want": slowWant})
	case 7:
		return fits(c, named{"Kind": someKind, "Proc": aSeq, "Step": aStep})
	}
	return false
}

func slowWant(x any) bool {
	w := x.(api.Want)
	if w.Move {
		return w.In != w.Out && fits(w, named{"Move": anyFlag, "Group": aGroup, "In": aNode, "Out": aNode})
	}
	return fits(w, named{"Group": aGroup, "Key": bytesFrom(1, 24)})
}

func slowMembers(x any) bool {
	l := x.([]int)
	for i := range l {
		if !aNode(l[i]) || i > 0 && l[i-1] >= l[i] {
			return false
		}
	}
	return len(l) >= 1
}

func slowEntry(x any) bool {
	e := x.(api.Entry)
	above := counted(1, math.MaxUint64)
	switch e.Kind {
	case 1:
		return fits(e, named{"Kind": someKind, "Index": above, "Term": above, "Cmd": slowCmd})
	case 2:
		return fits(e, named{"Kind": someKind, "Index": above, "Term": above, "Members": slowMembers})
	}
	return false
}

func slowResult(x any) bool {
	return fits(x, named{"Err": anErr, "Found": anyFlag, "Row": bytesFrom(0, 32), "Value": bytesFrom(0, 65536), "Version": counted(0, two40)})
}

func slowBase(x any) bool {
	return fits(x, named{"Index": counted(1, two40), "Term": counted(1, two40), "Members": slowMembers})
}

func slowEntries(x any) bool {
	l := x.([]api.Entry)
	for _, e := range l {
		if !slowEntry(e) {
			return false
		}
	}
	return len(l) <= 8
}

func slowAsk(group int) func(any) bool {
	its := within(group, group)
	nobody := within(-1, -1)
	change := func(x any) bool { return fits(x, named{"Proc": aSeq, "Step": aStep}) }
	command := func(x any) bool { return slices.Contains([]int{2, 3, 4, 5}, x.(api.Cmd).Kind) && slowCmd(x) }
	return func(x any) bool {
		return fits(x, named{"Group": its, "Cmd": command, "In": nobody, "Out": nobody}) ||
			fits(x, named{"Group": its, "Cmd": change, "In": aNode, "Out": nobody}) ||
			fits(x, named{"Group": its, "Cmd": change, "In": nobody, "Out": aNode})
	}
}

func slowMsg(x any) bool {
	m := x.(api.Msg)
	its := within(m.Group, m.Group)
	var row named
	switch m.Kind {
	case 1:
		row = named{"Term": aPlace, "Index": aPlace, "LogTerm": aPlace}
	case 2:
		row = named{"Term": aPlace, "Ok": anyFlag}
	case 3:
		row = named{"Term": aPlace, "Index": aPlace, "LogTerm": aPlace, "Commit": aPlace, "Entries": slowEntries}
	case 4:
		row = named{"Term": aPlace, "Ok": anyFlag, "Index": aPlace}
	case 5:
		row = named{"Term": aPlace, "Base": slowBase, "Data": bytesFrom(0, 1048576)}
	case 6:
		row = named{"Request": func(x any) bool {
			return fits(x, named{"Client": aClient, "Seq": aSeq, "Group": its, "Epoch": anEpoch, "Op": anOp})
		}}
	case 7:
		row = named{"Reply": func(x any) bool {
			return fits(x, named{"Client": aClient, "Seq": aSeq, "Result": slowResult, "Hint": aHint})
		}}
	case 8:
		row = named{"Ask": slowAsk(m.Group)}
	case 9:
		row = named{"Told": func(x any) bool {
			return fits(x, named{"Group": its, "Proc": aSeq, "Step": aStep, "Err": anErr, "Hint": aHint})
		}}
	default:
		return false
	}
	row["Kind"], row["Group"] = someKind, aGroup
	return fits(m, row)
}

// The orders in which the fields are laid; ahead of one that may be below 0
// stands a -.
const (
	opOrder     = "Kind Row Col Value Has Expect"
	wantOrder   = "Move Group Key In Out"
	resultOrder = "Err Found Row Value Version"
)

// inside puts the name of a struct's field ahead of those of its own.
func inside(field, order string) string {
	var l []string
	for _, name := range strings.Fields(order) {
		bare := strings.TrimPrefix(name, "-")
		l = append(l, name[:len(name)-len(bare)]+field+"."+bare)
	}
	return " " + strings.Join(l, " ") + " "
}

func cmdOrder() string {
	return "Kind Client Seq Epoch" + inside("Op", opOrder) + "Proc Step Key Value Group" + inside("Want", wantOrder)
}

func entryOrder() string { return "Index Term Kind" + inside("Cmd", cmdOrder()) + "Members" }

func msgOrder() string {
	return "Kind Group Term Index LogTerm Commit Ok Entries Base.Index Base.Term Base.Members Data" +
		inside("Request", "Client Seq Group Epoch"+inside("Op", opOrder)) +
		inside("Reply", "Client Seq"+inside("Result", resultOrder)+"-Hint") +
		inside("Ask", "Group"+inside("Cmd", cmdOrder())+"-In -Out") +
		inside("Told", "Group Proc Step Err -Hint")
}

// field is where a field stands in a struct, and whether it may be below 0.
type field struct {
	at    []int
	below bool
}

func fieldsOf(x any, order string) (l []field) {
	for name := range strings.FieldsSeq(order) {
		bare, below := strings.CutPrefix(name, "-")
		var at []int
		in := reflect.TypeOf(x)
		for part := range strings.SplitSeq(bare, ".") {
			f, _ := in.FieldByName(part)
			at, in = append(at, f.Index...), f.Type
		}
		l = append(l, field{at, below})
	}
	return l
}

var (
	entryFields  = fieldsOf(api.Entry{}, entryOrder())
	msgFields    = fieldsOf(api.Msg{}, msgOrder())
	resultFields = fieldsOf(api.Result{}, resultOrder)
)

func orderOf(p any) []field {
	switch p.(type) {
	case *api.Entry:
		return entryFields
	case *api.Msg:
		return msgFields
	}
	return resultFields
}

// laid are the bytes of what p points to, as the chapter words them, of one
// that may not be too.
func laid(p any) string {
	var b []byte
	for _, one := range orderOf(p) {
		switch v := reflect.ValueOf(p).Elem().FieldByIndex(one.at).Interface().(type) {
		case int:
			n := uint64(v)
			if one.below && v < 0 {
				n = uint64(-v)*2 - 1
			} else if one.below {
				n = uint64(v) * 2
			}
			b = binary.AppendUvarint(b, n)
		case api.Errno:
			b = binary.AppendUvarint(b, uint64(v))
		case uint64:
			b = binary.AppendUvarint(b, v)
		case string:
			b = append(binary.AppendUvarint(b, uint64(len(v))), v...)
		case bool:
			b = append(b, map[bool]byte{true: 1}[v])
		case []int:
			b = binary.AppendUvarint(b, uint64(len(v)))
			for _, n := range v {
				b = binary.AppendUvarint(b, uint64(n))
			}
		case []api.Entry:
			b = binary.AppendUvarint(b, uint64(len(v)))
			for _, e := range v {
				one := laid(&e)
				b = append(binary.AppendUvarint(b, uint64(len(one))), one...)
			}
		}
	}
	return string(b)
}

// slowRead reads s into what p points to, numbers in whatever form and bools of
// whatever byte; it is whole only if laid lays the same bytes.
func slowRead(s string, p any, may func(any) bool) bool {
	rest, ok := []byte(s), true
	number := func() uint64 {
		v, n := binary.Uvarint(rest)
		if n <= 0 {
			ok, n = false, 0
		}
		rest = rest[n:]
		return v
	}
	text := func() string {
		n := number()
		if n > uint64(len(rest)) {
			ok, n = false, 0
		}
		one := string(rest[:n])
		rest = rest[n:]
		return one
	}
	for _, one := range orderOf(p) {
		f := reflect.ValueOf(p).Elem().FieldByIndex(one.at)
		switch f.Interface().(type) {
		case int, api.Errno:
			n := number()
			if one.below && n%2 == 1 {
				f.SetInt(-1 - int64(n/2))
			} else if one.below {
				f.SetInt(int64(n / 2))
			} else {
				f.SetInt(int64(n))
			}
		case uint64:
			f.SetUint(number())
		case string:
			f.SetString(text())
		case bool:
			f.SetBool(number() == 1)
		case []int:
			for n := number(); ok && n > 0; n-- {
				f.Set(reflect.Append(f, reflect.ValueOf(int(number()))))
			}
		case []api.Entry:
			for n := number(); ok && n > 0; n-- {
				var e api.Entry
				ok = slowRead(text(), &e, slowEntry)
				f.Set(reflect.Append(f, reflect.ValueOf(e)))
			}
		}
	}
	return ok && len(rest) == 0 && may(reflect.ValueOf(p).Elem().Interface()) && laid(p) == s
}

// alike takes nil and empty lists for alike.
func alike(a, b any) bool {
	return reflect.DeepEqual(bare(reflect.ValueOf(a)), bare(reflect.ValueOf(b)))
}

// bare makes a copy whose empty lists are nil.
func bare(v reflect.Value) any {
	c := reflect.New(v.Type()).Elem()
	switch v.Kind() {
	case reflect.Struct:
		for i := range v.NumField() {
			c.Field(i).Set(reflect.ValueOf(bare(v.Field(i))))
		}
	case reflect.Slice:
		for i := range v.Len() {
			c.Set(reflect.Append(c, reflect.ValueOf(bare(v.Index(i)))))
		}
	default:
		c.Set(v)
	}
	return c.Interface()
}

// short tells a thing whose texts may be long.
func short(x any) string {
	s := fmt.Sprintf("%+q", x)
	return s[:min(len(s), 1500)]
}

// kind is one kind of things that are laid, with all that is asked of it.
type kind[T any] struct {
	name   string
	may    func(any) bool
	encode func(T) (string, api.Errno)
	decode func(string) (T, api.Errno)
}

var (
	entries  = kind[api.Entry]{"entry", slowEntry, EncodeEntry, DecodeEntry}
	messages = kind[api.Msg]{"message", slowMsg, EncodeMsg, DecodeMsg}
	results  = kind[api.Result]{"result", slowResult, EncodeResult, DecodeResult}
)

// holds lays x, and reads its bytes, and tells whether it may be.
func (k kind[T]) holds(t *testing.T, x T) bool {
	t.Helper()
	s, e := k.encode(x)
	if !k.may(x) {
		if e != api.ErrArg || s != "" {
			t.Fatalf("%s %s may not be: %.60q, %d", k.name, short(x), s, e)
		}
		// Its bytes, as far as it has any, are no one's.
		k.reads(t, laid(&x))
		return false
	}
	if want := laid(&x); s != want || e != api.OK {
		t.Fatalf("%s %s: %.300q, %d, not %.300q", k.name, short(x), s, e, want)
	}
	back, e := k.decode(s)
	if e != api.OK || !alike(back, x) {
		t.Fatalf("%s %s is read as %s, %d", k.name, short(x), short(back), e)
	}
	return true
}

// reads tells whether s are a thing's bytes.
func (k kind[T]) reads(t *testing.T, s string) bool {
	t.Helper()
	var want, zero T
	is := slowRead(s, &want, k.may)
	got, e := k.decode(s)
	if !is {
		if e != api.ErrForm || !reflect.DeepEqual(got, zero) {
			t.Fatalf("%.300q are no %s's bytes: %s, %d", s, k.name, short(got), e)
		}
		return false
	}
	if e != api.OK || !alike(got, want) {
		t.Fatalf("%.300q: %s, %d, not %s", s, short(got), e, short(want))
	}
	if again, e := k.encode(got); again != s || e != api.OK {
		t.Fatalf("%.300q is laid as %.300q, %d", s, again, e)
	}
	return true
}

func errnoOf(may bool) api.Errno {
	if may {
		return api.OK
	}
	return api.ErrArg
}

func cmdHolds(t *testing.T, c api.Cmd) bool {
	t.Helper()
	may := slowCmd(c)
	if got := Cmd(c); got != errnoOf(may) {
		t.Fatalf("Cmd(%s): %d", short(c), got)
	}
	entryHolds(t, api.Entry{Index: 1, Term: 1, Kind: api.EntCmd, Cmd: c})
	msgHolds(t, api.Msg{Kind: api.MsgAsk, Group: 5, Ask: api.Ask{Group: 5, Cmd: c, In: -1, Out: -1}})
	return may
}

func entryHolds(t *testing.T, e api.Entry) bool {
	t.Helper()
	may := entries.holds(t, e)
	if got := Entry(e); got != errnoOf(may) {
		t.Fatalf("Entry(%s): %d", short(e), got)
	}
	return may
}

func msgHolds(t *testing.T, m api.Msg) bool {
	t.Helper()
	may := messages.holds(t, m)
	if got := Msg(m); got != errnoOf(may) {
		t.Fatalf("Msg(%s): %d", short(m), got)
	}
	return may
}

func resultHolds(t *testing.T, r api.Result) bool {
	t.Helper()
	msgHolds(t, api.Msg{Kind: api.MsgReply, Reply: api.Reply{Seq: 1, Result: r}})
	return results.holds(t, r)
}

var putOp = api.Op{Kind: api.OpPut, Row: "a", Col: "x", Value: "v"}

// someCmds are commands that may be, of each kind, plain and at their edges.
func someCmds() []api.Cmd {
	return []api.Cmd{
		{},
		{Kind: api.CmdRow, Client: 1, Seq: 2, Epoch: 1, Op: putOp},
		{Kind: api.CmdRow, Seq: 1, Op: api.Op{Kind: api.OpGet, Row: "a", Col: "x"}},
		{Kind: api.CmdRow, Client: 3, Seq: two40, Epoch: two40, Op: api.Op{Kind: api.OpCheck, Row: long(24), Col: long(16), Value: long(256), Has: true, Expect: long(256)}},
		{Kind: api.CmdRow, Seq: 1, Op: api.Op{Kind: api.OpSeek, Col: "x"}},
		{Kind: api.CmdRow, Seq: 1, Op: api.Op{Kind: api.OpDel, Row: "\x00", Col: "\xff"}},
		{Kind: api.CmdFreeze, Proc: 1, Step: 0, Epoch: 1},
		{Kind: api.CmdFreeze, Proc: two40, Step: 100, Epoch: two40},
		{Kind: api.CmdSplit, Proc: 2, Step: 1, Epoch: 1, Key: "k", Group: 4},
		{Kind: api.CmdSplit, Proc: two40, Step: 100, Epoch: 0, Key: long(24), Group: 11},
		{Kind: api.CmdThaw, Proc: 3, Step: 2, Epoch: 2},
		{Kind: api.CmdThaw, Proc: 1, Step: 0, Epoch: 0},
		{Kind: api.CmdMeta, Proc: 4, Step: 3, Key: "k", Value: "v"},
		{Kind: api.CmdMeta, Proc: 4, Step: 3, Key: long(32), Value: long(256)},
		{Kind: api.CmdMeta, Proc: 4, Step: 3, Key: "k"},
		{Kind: api.CmdWant, Want: api.Want{Move: true, Group: 3, In: 3, Out: 0}},
		{Kind: api.CmdWant, Want: api.Want{Move: true, Group: 11, In: 0, Out: 4}},
		{Kind: api.CmdWant, Want: api.Want{Group: 0, Key: "k"}},
		{Kind: api.CmdWant, Want: api.Want{Group: 11, Key: long(24)}},
		{Kind: api.CmdStep, Proc: 5, Step: 4},
		{Kind: api.CmdStep, Proc: 1, Step: 0},
	}
}

func someEntries() (l []api.Entry) {
	for i, c := range someCmds() {
		l = append(l, api.Entry{Index: 300 + uint64(i), Term: 2, Kind: api.EntCmd, Cmd: c})
	}
	return append(l,
		api.Entry{Index: 1, Term: 1, Kind: api.EntCmd, Members: []int{}},
		api.Entry{Index: math.MaxUint64, Term: math.MaxUint64, Kind: api.EntCmd},
		api.Entry{Index: 3, Term: 2, Kind: api.EntConf, Members: []int{0, 1, 4}},
		api.Entry{Index: 3, Term: 2, Kind: api.EntConf, Members: []int{4}},
		api.Entry{Index: math.MaxUint64, Term: 1, Kind: api.EntConf, Members: []int{0, 1, 2, 3, 4}},
	)
}

func someResults() []api.Result {
	return []api.Result{
		{},
		{Err: 5},
		{Err: 15},
		{Found: true, Value: "v", Version: 3},
		{Found: true, Row: "a", Value: "v", Version: 300},
		{Err: 14, Found: true, Row: long(32), Value: long(65536), Version: two40},
	}
}

// someMsgs are messages that may be, of each kind, plain and at their edges.
func someMsgs() (l []api.Msg) {
	some := someEntries()
	l = []api.Msg{
		{Kind: api.MsgVote},
		{Kind: api.MsgVote, Group: 11, Term: 5, Index: 1, LogTerm: 1, Entries: []api.Entry{}, Base: api.Base{Members: []int{}}},
		{Kind: api.MsgVote, Term: two40, Index: two40, LogTerm: two40},
		{Kind: api.MsgVoted, Group: 1, Term: 5, Ok: true},
		{Kind: api.MsgVoted},
		{Kind: api.MsgAppend},
		{Kind: api.MsgAppend, Group: 3, Term: 5, Index: 1, LogTerm: 1, Commit: 1, Entries: []api.Entry{{Index: 2, Term: 5, Kind: api.EntCmd}, {Index: 3, Term: 5, Kind: api.EntConf, Members: []int{3}}}},
		{Kind: api.MsgAppend, Term: two40, Index: two40, LogTerm: two40, Commit: two40, Entries: some[len(some)-8:]},
		{Kind: api.MsgAppended, Group: 3, Term: 5, Ok: true, Index: 7},
		{Kind: api.MsgAppended, Term: two40, Index: two40},
		{Kind: api.MsgSnap, Group: 3, Term: 1, Base: api.Base{Index: 9, Term: 1, Members: []int{0, 1}}, Data: "cells"},
		{Kind: api.MsgSnap, Base: api.Base{Index: two40, Term: two40, Members: []int{0, 1, 2, 3, 4}}, Data: long(300)},
		{Kind: api.MsgRequest, Group: 3, Request: api.Request{Client: 1, Seq: 2, Group: 3, Epoch: 1, Op: putOp}},
		{Kind: api.MsgRequest, Request: api.Request{Client: 3, Seq: two40, Epoch: two40, Op: api.Op{Kind: api.OpSeek, Row: long(32), Col: "x"}}},
		{Kind: api.MsgReply, Reply: api.Reply{Client: 3, Seq: 9, Result: api.Result{Found: true}, Hint: -1}},
		{Kind: api.MsgReply, Group: 3, Reply: api.Reply{Seq: 1, Hint: 0}},
		{Kind: api.MsgReply, Group: 11, Reply: api.Reply{Seq: two40, Result: someResults()[4], Hint: 4}},
		{Kind: api.MsgAsk, Group: 2, Ask: api.Ask{Group: 2, Cmd: api.Cmd{Proc: 1, Step: 2}, In: -1, Out: 4}},
		{Kind: api.MsgAsk, Ask: api.Ask{Cmd: api.Cmd{Proc: two40, Step: 100}, In: 0, Out: -1}},
		{Kind: api.MsgTold, Group: 2, Told: api.Told{Group: 2, Proc: 1, Err: 6, Hint: 4}},
		{Kind: api.MsgTold, Told: api.Told{Proc: two40, Step: 100, Err: 15, Hint: -1}},
		{Kind: api.MsgTold, Group: 11, Told: api.Told{Group: 11, Proc: 1, Step: 1}},
	}
	for _, c := range someCmds() {
		switch c.Kind {
		case api.CmdFreeze, api.CmdSplit, api.CmdThaw, api.CmdMeta:
			l = append(l, api.Msg{Kind: api.MsgAsk, Group: 4, Ask: api.Ask{Group: 4, Cmd: c, In: -1, Out: -1}})
		}
	}
	return l
}

// hexed reads bytes, two digits each, and n noughts as n*.
func hexed(t *testing.T, text string) string {
	t.Helper()
	var b strings.Builder
	for word := range strings.FieldsSeq(text) {
		if many, is := strings.CutSuffix(word, "*"); is {
			var n int
			fmt.Sscan(many, &n)
			b.WriteString(strings.Repeat("\x00", n))
			continue
		}
		one, err := hex.DecodeString(word)
		if err != nil {
			t.Fatal(err)
		}
		b.Write(one)
	}
	return b.String()
}

func TestTheChaptersExamples(t *testing.T) { // P16.1, P16.2
	for text, r := range map[string]api.Result{
		"00 00 00 00 00":    {},
		"05 00 00 00 00":    {Err: 5},
		"00 01 00 01 76 03": {Found: true, Value: "v", Version: 3},
	} {
		if s, e := EncodeResult(r); s != hexed(t, text) || e != api.OK {
			t.Errorf("EncodeResult(%+v): %x, %d", r, s, e)
		}
	}
	e := api.Entry{Index: 1, Term: 1, Kind: api.EntCmd}
	if s, f := EncodeEntry(e); s != "\x01\x01\x01"+strings.Repeat("\x00", 21) || f != api.OK {
		t.Errorf("EncodeEntry: %x, %d", s, f)
	}
	for i, got := range []api.Errno{
		Cmd(api.Cmd{Seq: 1}), Cmd(api.Cmd{Kind: 8}), Entry(api.Entry{Term: 1, Kind: api.EntCmd}),
		Members([]int{1, 0}), Members(nil), Members([]int{}),
	} {
		if got != api.ErrArg {
			t.Errorf("%d: %d", i, got)
		}
	}
	if m, e := DecodeMsg(""); e != api.ErrForm || !reflect.DeepEqual(m, api.Msg{}) {
		t.Errorf("DecodeMsg of nothing: %+v, %d", m, e)
	}
	if r, e := DecodeResult("\x10\x00\x00\x00\x00"); e != api.ErrForm || r != (api.Result{}) {
		t.Errorf("DecodeResult of the error 16: %+v, %d", r, e)
	}
}

func TestCommandsAsBytes(t *testing.T) { // P16.2, P16.3, W9
	const ahead, noOp, noWant = "ac02 02 01 ", "6* ", "5* "
	for text, c := range map[string]api.Cmd{
		"20*": {},
		"01 03 ac02 09 01 0161 0178 0176 00 00 00 00 00 00 00 " + noWant:         {Kind: api.CmdRow, Client: 3, Seq: 300, Epoch: 9, Op: putOp},
		"01 00 01 00 04 0161 0178 0177 01 0176 00 00 00 00 00 " + noWant:         {Kind: api.CmdRow, Seq: 1, Op: api.Op{Kind: api.OpCheck, Row: "a", Col: "x", Value: "w", Has: true, Expect: "v"}},
		"02 00 00 09 " + noOp + "07 03 00 00 00 " + noWant:                       {Kind: api.CmdFreeze, Proc: 7, Step: 3, Epoch: 9},
		"03 00 00 09 " + noOp + "07 03 026b6c 00 04 " + noWant:                   {Kind: api.CmdSplit, Proc: 7, Step: 3, Epoch: 9, Key: "kl", Group: 4},
		"04 00 00 8080808080 20 " + noOp + "8080808080 20 64 00 00 00 " + noWant: {Kind: api.CmdThaw, Proc: two40, Step: 100, Epoch: two40},
		"05 00 00 00 " + noOp + "07 03 026b6c 03767778 00 " + noWant:             {Kind: api.CmdMeta, Proc: 7, Step: 3, Key: "kl", Value: "vwx"},
		"06 00 00 00 " + noOp + "00 00 00 00 00 01 0b 00 03 04":                  {Kind: api.CmdWant, Want: api.Want{Move: true, Group: 11, In: 3, Out: 4}},
		"06 00 00 00 " + noOp + "00 00 00 00 00 00 03 026b6c 00 00":              {Kind: api.CmdWant, Want: api.Want{Group: 3, Key: "kl"}},
		"07 00 00 00 " + noOp + "07 03 00 00 00 " + noWant:                       {Kind: api.CmdStep, Proc: 7, Step: 3},
		"01 00 01 00 05 00 0178 00 00 00 00 00 00 00 00 " + noWant:               {Kind: api.CmdRow, Seq: 1, Op: api.Op{Kind: api.OpSeek, Col: "x"}},
		"01 00 01 00 03 0161 0178 00 00 00 00 00 00 00 00 " + noWant:             {Kind: api.CmdRow, Seq: 1, Op: api.Op{Kind: api.OpDel, Row: "a", Col: "x"}},
		"05 00 00 00 " + noOp + "01 00 0220ff 00 00 " + noWant:                   {Kind: api.CmdMeta, Proc: 1, Key: " \xff"},
		"01 00 01 00 02 02 0d0a 01 00 00 00 00 00 00 00 00 00 " + noWant:         {Kind: api.CmdRow, Seq: 1, Op: api.Op{Kind: api.OpGet, Row: "\r\n", Col: "\x00"}},
		"01 01 01 01 04 0161 0178 00 00 00 00 00 00 00 00 " + noWant:             {Kind: api.CmdRow, Client: 1, Seq: 1, Epoch: 1, Op: api.Op{Kind: api.OpCheck, Row: "a", Col: "x"}},
		"01 02 ffffffffff 1f 00 01 0161 0178 00 00 00 00 00 00 00 00 " + noWant:  {Kind: api.CmdRow, Client: 2, Seq: two40 - 1, Op: api.Op{Kind: api.OpPut, Row: "a", Col: "x"}},
	} {
		e := api.Entry{Index: 300, Term: 2, Kind: api.EntCmd, Cmd: c}
		want := hexed(t, ahead+text+" 00")
		if s, f := EncodeEntry(e); s != want || f != api.OK {
			t.Errorf("%+v: %x, %d, not %x", c, s, f, want)
		}
		if got, f := DecodeEntry(want); !Same(got, e) || f != api.OK {
			t.Errorf("%x: %+v, %d", want, got, f)
		}
	}
	conf := api.Entry{Index: 3, Term: 2, Kind: api.EntConf, Members: []int{0, 1, 4}}
	if s, f := EncodeEntry(conf); s != hexed(t, "03 02 02 20* 03 00 01 04") || f != api.OK {
		t.Errorf("%+v: %x, %d", conf, s, f)
	}
}

func TestMessagesAsBytes(t *testing.T) { // P16.2, P16.3, W9
	const noLists, noBase, noRequest, noReply, noAsk, noTold = "00 ", "3* 00 ", "10* ", "8* ", "23* ", "5* "
	const noneOf = noRequest + noReply + noAsk + noTold
	for text, m := range map[string]api.Msg{
		"01 0b 05 02 01 00 00 " + noLists + noBase + noneOf: {Kind: api.MsgVote, Group: 11, Term: 5, Index: 2, LogTerm: 1},
		"02 03 05 00 00 00 01 " + noLists + noBase + noneOf: {Kind: api.MsgVoted, Group: 3, Term: 5, Ok: true},
		"03 03 05 02 01 04 00 02 18 020501 21* 19 030502 20* 0103 " + noBase + noneOf: {Kind: api.MsgAppend, Group: 3, Term: 5, Index: 2, LogTerm: 1, Commit: 4,
			Entries: []api.Entry{{Index: 2, Term: 5, Kind: api.EntCmd}, {Index: 3, Term: 5, Kind: api.EntConf, Members: []int{3}}}},
		"04 03 05 07 00 00 01 " + noLists + noBase + noneOf:                                          {Kind: api.MsgAppended, Group: 3, Term: 5, Index: 7, Ok: true},
		"05 03 05 00 00 00 00 " + noLists + "09 01 02 00 04 05 63656c6c73 " + noneOf:                 {Kind: api.MsgSnap, Group: 3, Term: 5, Base: api.Base{Index: 9, Term: 1, Members: []int{0, 4}}, Data: "cells"},
		"06 03 00 00 00 00 00 " + noLists + noBase + "01 02 03 04 01 0161 0178 0176 00 00 8* 23* 5*": {Kind: api.MsgRequest, Group: 3, Request: api.Request{Client: 1, Seq: 2, Group: 3, Epoch: 4, Op: putOp}},
		"07 03 00 00 00 00 00 " + noLists + noBase + "10* 01 02 0d 01 0161 0176 03 01 23* 5*":        {Kind: api.MsgReply, Group: 3, Reply: api.Reply{Client: 1, Seq: 2, Result: api.Result{Err: 13, Found: true, Row: "a", Value: "v", Version: 3}, Hint: -1}},
		"07 03 00 00 00 00 00 " + noLists + noBase + "10* 01 02 00 00 00 00 00 08 23* 5*":            {Kind: api.MsgReply, Group: 3, Reply: api.Reply{Client: 1, Seq: 2, Hint: 4}},
		"08 03 00 00 00 00 00 " + noLists + noBase + "10* 8* 03 04 00 00 09 6* 07 02 8* 01 01 5*":    {Kind: api.MsgAsk, Group: 3, Ask: api.Ask{Group: 3, Cmd: api.Cmd{Kind: api.CmdThaw, Proc: 7, Step: 2, Epoch: 9}, In: -1, Out: -1}},
		"08 03 00 00 00 00 00 " + noLists + noBase + "10* 8* 03 00 00 00 00 6* 07 02 8* 06 01 5*":    {Kind: api.MsgAsk, Group: 3, Ask: api.Ask{Group: 3, Cmd: api.Cmd{Proc: 7, Step: 2}, In: 3, Out: -1}},
		"08 03 00 00 00 00 00 " + noLists + noBase + "10* 8* 03 00 00 00 00 6* 07 02 8* 01 00 5*":    {Kind: api.MsgAsk, Group: 3, Ask: api.Ask{Group: 3, Cmd: api.Cmd{Proc: 7, Step: 2}, In: -1, Out: 0}},
		"09 03 00 00 00 00 00 " + noLists + noBase + "10* 8* 23* 03 07 02 06 01":                     {Kind: api.MsgTold, Group: 3, Told: api.Told{Group: 3, Proc: 7, Step: 2, Err: 6, Hint: -1}},
		"09 03 00 00 00 00 00 " + noLists + noBase + "10* 8* 23* 03 07 02 00 02":                     {Kind: api.MsgTold, Group: 3, Told: api.Told{Group: 3, Proc: 7, Step: 2, Hint: 1}},
	} {
		want := hexed(t, text)
		if s, e := EncodeMsg(m); s != want || e != api.OK {
			t.Errorf("%+v: %x, %d, not %x", m, s, e, want)
		}
		if got, e := DecodeMsg(want); !alike(got, m) || e != api.OK {
			t.Errorf("%x: %+v, %d", want, got, e)
		}
	}
}

func TestWhatMayBe(t *testing.T) { // P16.1, P16.2, P16.3, W9
	for _, c := range someCmds() {
		if !cmdHolds(t, c) {
			t.Errorf("%s may not be", short(c))
		}
	}
	for _, e := range someEntries() {
		if !entryHolds(t, e) {
			t.Errorf("%s may not be", short(e))
		}
	}
	for _, r := range someResults() {
		if !resultHolds(t, r) {
			t.Errorf("%s may not be", short(r))
		}
	}
	for _, m := range someMsgs() {
		if !msgHolds(t, m) {
			t.Errorf("%s may not be", short(m))
		}
	}
}

// listsOf are all lists of up to most numbers from low to high.
func listsOf(most, low, high int) [][]int {
	lists := [][]int{nil}
	for from := 0; most > 0; most-- {
		to := len(lists)
		for _, l := range lists[from:to] {
			for n := low; n <= high; n++ {
				lists = append(lists, append(slices.Clone(l), n))
			}
		}
		from = to
	}
	return lists
}

func TestMembers(t *testing.T) { // P16.1
	lists := listsOf(4, -1, 5)
	lists = append(lists,
		[]int{}, []int{0, 1, 2, 3, 4}, []int{0, 1, 2, 3, 4, 5}, []int{0, 1, 2, 3, 3}, []int{4, 3, 2, 1, 0}, []int{0, 1, 2, 3, 4, 0},
		[]int{math.MaxInt}, []int{math.MinInt}, []int{math.MinInt, 0}, []int{0, math.MaxInt}, make([]int, 1<<20),
	)
	for _, l := range lists {
		if got := Members(l); got != errnoOf(slowMembers(l)) {
			t.Errorf("%v: %d", l[:min(len(l), 9)], got)
		}
	}
}

// edges are values for a field of that type: those that the chapter names, and
// their neighbours.
func edges(f reflect.Value) (l []any) {
	switch f.Interface().(type) {
	case int:
		for _, n := range []int{math.MinInt, math.MinInt + 1, -1 << 32, -100, -12, -5, -4, -3, -2, -1, 0, 1, 2, 3, 4, 5, 6, 7, 8, 9, 10, 11, 12, 13, 99, 100, 101, 1<<31 - 1, 1 << 31, 1 << 32, 1<<32 + 1, 1<<32 + 4, math.MaxInt} {
			l = append(l, n)
		}
	case api.Errno:
		for _, n := range []api.Errno{math.MinInt, -1, 0, 1, 14, 15, 16, 1 << 32, math.MaxInt} {
			l = append(l, n)
		}
	case uint64:
		for _, n := range []uint64{0, 1, 2, 127, 128, two40 - 1, two40, two40 + 1, 1<<63 - 1, 1 << 63, math.MaxUint64} {
			l = append(l, n)
		}
	case string:
		for _, n := range []int{0, 1, 15, 16, 17, 23, 24, 25, 31, 32, 33, 127, 128, 255, 256, 257} {
			l = append(l, long(n))
		}
	case bool:
		l = []any{false, true}
	case []int:
		for _, one := range [][]int{nil, {}, {0}, {4}, {5}, {-1}, {0, 1}, {1, 0}, {2, 2}, {0, 1, 2, 3, 4}, {0, 1, 2, 3, 4, 5}, {0, math.MaxInt}} {
			l = append(l, one)
		}
	case []api.Entry:
		l = edgesOfEntries()
	}
	return l
}

func edgesOfEntries() []any {
	some := someEntries()
	with := func(e api.Entry) []api.Entry { return []api.Entry{some[0], e, some[1]} }
	return []any{
		[]api.Entry(nil), []api.Entry{}, some[1:2], some[2:3], some[len(some)-2:], some[:7], some[:8], some[:9], some,
		with(api.Entry{}), with(api.Entry{Term: 1, Kind: api.EntCmd}), with(api.Entry{Index: 1, Kind: api.EntCmd}), with(api.Entry{Index: 1, Term: 1}),
		with(api.Entry{Index: 1, Term: 1, Kind: api.EntConf}), with(api.Entry{Index: 1, Term: 1, Kind: api.EntConf, Members: []int{1, 1}}),
		with(api.Entry{Index: 1, Term: 1, Kind: api.EntCmd, Cmd: api.Cmd{Seq: 1}}),
		[]api.Entry{{}}, []api.Entry{some[0], {}}, []api.Entry{some[0], some[0], some[0]},
	}
}

// leaves are the fields of a struct, and of those within it, that are none.
func leaves(v reflect.Value) (l []reflect.Value) {
	for i := range v.NumField() {
		if f := v.Field(i); f.Kind() == reflect.Struct {
			l = append(l, leaves(f)...)
		} else {
			l = append(l, f)
		}
	}
	return l
}

// eachOther hands on x with each of its fields, one at a time, at each of the
// field's edges.
func eachOther[T any](x T, hand func(T)) {
	v := reflect.ValueOf(&x).Elem()
	for _, f := range leaves(v) {
		was := reflect.ValueOf(f.Interface())
		for _, other := range edges(f) {
			f.Set(reflect.ValueOf(other))
			hand(x)
		}
		f.Set(was)
	}
}

func TestEachFieldOfACommand(t *testing.T) { // P16.1, P16.2: each kind with each field at each edge
	count := [2]int{}
	for _, c := range someCmds() {
		eachOther(c, func(c api.Cmd) { count[errnoOf(cmdHolds(t, c))/2]++ })
	}
	enough(t, count, 500)
}

// enough sees to it that there were enough of both, those that may be and not.
func enough(t *testing.T, count [2]int, each int) {
	t.Helper()
	if min(count[0], count[1]) < each {
		t.Errorf("may be, may not be: %d", count)
	}
}

func TestEachFieldOfAnEntry(t *testing.T) { // P16.1, P16.2
	count := [2]int{}
	for _, e := range someEntries() {
		eachOther(e, func(e api.Entry) { count[errnoOf(entryHolds(t, e))/2]++ })
	}
	enough(t, count, 500)
}

func TestEachFieldOfAResult(t *testing.T) { // P16.1, P16.2
	count := [2]int{}
	for _, r := range someResults() {
		eachOther(r, func(r api.Result) { count[errnoOf(resultHolds(t, r))/2]++ })
	}
	for _, n := range []int{api.MaxCell - 1, api.MaxCell, api.MaxCell + 1, api.MaxFrame} {
		if may := resultHolds(t, api.Result{Found: true, Value: long(n), Version: 1}); may != (n <= 65536) {
			t.Errorf("a Value of %d bytes: %t", n, may)
		}
	}
	enough(t, count, 50)
}

func TestEachFieldOfAMessage(t *testing.T) { // P16.1, P16.2
	count := [2]int{}
	for _, m := range someMsgs() {
		eachOther(m, func(m api.Msg) { count[errnoOf(msgHolds(t, m))/2]++ })
	}
	enough(t, count, 1000)
}

func TestOfHowManyBytesDataMayBe(t *testing.T) { // P16.1, P16.2
	for n, want := range map[int]bool{0: true, 1: true, api.MaxFrame - 1: true, api.MaxFrame: true, api.MaxFrame + 1: false, 2 * api.MaxFrame: false} {
		m := api.Msg{Kind: api.MsgSnap, Base: api.Base{Index: 1, Term: 1, Members: []int{0}}, Data: long(n)}
		if got := msgHolds(t, m); got != want {
			t.Errorf("Data of %d bytes: %t", n, got)
		}
	}
}

func TestHowManyEntriesMayBe(t *testing.T) { // P16.1, P16.2
	for n := range 20 {
		m := api.Msg{Kind: api.MsgAppend, Term: 1, Entries: slices.Repeat([]api.Entry{{Index: 1, Term: 1, Kind: api.EntCmd}}, n)}
		if got := msgHolds(t, m); got != (n <= 8) {
			t.Errorf("%d entries: %t", n, got)
		}
	}
}

func TestKindsThatAreNone(t *testing.T) { // P16.1, P16.2
	for _, kind := range []int{math.MinInt, -1 << 32, -1, 8, 9, 10, 11, 1<<32 + 1, math.MaxInt} {
		for _, c := range someCmds() {
			c.Kind = kind
			if cmdHolds(t, c) {
				t.Errorf("a command of the kind %d may be", kind)
			}
		}
		for _, e := range someEntries() {
			e.Kind = kind
			if entryHolds(t, e) {
				t.Errorf("an entry of the kind %d may be", kind)
			}
		}
		for _, m := range someMsgs() {
			if m.Kind = kind; kind != 8 && kind != 9 && msgHolds(t, m) {
				t.Errorf("a message of the kind %d may be", kind)
			}
		}
	}
	for _, e := range []api.Entry{{Index: 1, Term: 1}, {Index: 1, Term: 1, Kind: 3}} {
		if entryHolds(t, e) {
			t.Errorf("an entry of the kind %d may be", e.Kind)
		}
	}
	if msgHolds(t, api.Msg{}) {
		t.Error("a message of no kind may be")
	}
}

func TestEachKindWithTheFieldsOfAnother(t *testing.T) { // P16.1
	for _, c := range someCmds() {
		for kind := range 9 {
			c.Kind = kind
			cmdHolds(t, c)
		}
	}
	for _, m := range someMsgs() {
		for kind := range 11 {
			m.Kind = kind
			msgHolds(t, m)
		}
	}
}

func TestEntriesWithACommandAndMembers(t *testing.T) { // P16.1: each kind has just one of them
	for i, c := range someCmds() {
		for _, l := range [][]int{nil, {}, {0}, {0, 1, 4}, {1, 0}} {
			for kind, want := range map[int]bool{
				api.EntCmd:  len(l) == 0,
				api.EntConf: i == 0 && len(l) > 0 && l[0] == 0,
			} {
				if got := entryHolds(t, api.Entry{Index: 1, Term: 1, Kind: kind, Cmd: c, Members: l}); got != want {
					t.Errorf("kind %d, %s, %v: %t", kind, short(c), l, got)
				}
			}
		}
	}
}

func TestTheGroupOfWhatAMessageCarries(t *testing.T) { // P16.1: it is the message's
	for group := -1; group <= 12; group++ {
		for its := -1; its <= 12; its++ {
			for _, m := range []api.Msg{
				{Kind: api.MsgRequest, Group: group, Request: api.Request{Seq: 1, Group: its, Op: putOp}},
				{Kind: api.MsgAsk, Group: group, Ask: api.Ask{Group: its, Cmd: api.Cmd{Kind: api.CmdFreeze, Proc: 1}, In: -1, Out: -1}},
				{Kind: api.MsgAsk, Group: group, Ask: api.Ask{Group: its, Cmd: api.Cmd{Proc: 1}, In: 1, Out: -1}},
				{Kind: api.MsgTold, Group: group, Told: api.Told{Group: its, Proc: 1}},
			} {
				if got := msgHolds(t, m); got != (group == its && group >= 0 && group < 12) {
					t.Errorf("%s: %t", short(m), got)
				}
			}
		}
	}
}

func TestWhoComesAndGoesByAnAsk(t *testing.T) { // P16.1
	for in := -3; in <= 6; in++ {
		for out := -3; out <= 6; out++ {
			for kind := range 9 {
				c := api.Cmd{Kind: kind, Proc: 1, Step: 2}
				switch kind {
				case api.CmdSplit:
					c.Key, c.Group = "k", 4
				case api.CmdMeta:
					c.Key = "k"
				}
				got := msgHolds(t, api.Msg{Kind: api.MsgAsk, Ask: api.Ask{Cmd: c, In: in, Out: out}})
				var want bool
				switch kind {
				case api.CmdNone:
					want = in == -1 && out >= 0 && out < 5 || out == -1 && in >= 0 && in < 5
				case api.CmdFreeze, api.CmdSplit, api.CmdThaw, api.CmdMeta:
					want = in == -1 && out == -1
				}
				if got != want {
					t.Errorf("kind %d, in %d, out %d: %t", kind, in, out, got)
				}
			}
		}
	}
}

func TestWhatABossMayBeAskedFor(t *testing.T) { // P16.1
	for in := -1; in <= 5; in++ {
		for out := -1; out <= 5; out++ {
			for _, key := range []string{"", "k", long(24), long(25)} {
				for _, move := range []bool{false, true} {
					got := cmdHolds(t, api.Cmd{Kind: api.CmdWant, Want: api.Want{Move: move, Group: 3, Key: key, In: in, Out: out}})
					want := !move && in == 0 && out == 0 && key != "" && len(key) <= 24 ||
						move && in != out && min(in, out) >= 0 && max(in, out) < 5 && key == ""
					if got != want {
						t.Errorf("move %t, key %q, in %d, out %d: %t", move, key, in, out, got)
					}
				}
			}
		}
	}
}

// anyOther changes up to three fields of x.
func anyOther[T any](r *rand.Rand, x T) T {
	l := leaves(reflect.ValueOf(&x).Elem())
	for range 1 + r.Intn(3) {
		f := l[r.Intn(len(l))]
		some := edges(f)
		f.Set(reflect.ValueOf(some[r.Intn(len(some))]))
	}
	return x
}

func TestSeveralFieldsAtOnce(t *testing.T) { // P16.1 to P16.3
	r := rand.New(rand.NewSource(16))
	cmds, ents, msgs, res := someCmds(), someEntries(), someMsgs(), someResults()[:5]
	for range 8000 {
		cmdHolds(t, anyOther(r, cmds[r.Intn(len(cmds))]))
		entryHolds(t, anyOther(r, ents[r.Intn(len(ents))]))
		resultHolds(t, anyOther(r, res[r.Intn(len(res))]))
		msgHolds(t, anyOther(r, msgs[r.Intn(len(msgs))]))
	}
}

func TestBytesThatAreCutOrHaveMore(t *testing.T) { // P16.2, P16.3
	for _, e := range someEntries() {
		noOthers(t, entries, laid(&e))
	}
	for _, r := range someResults()[:5] {
		noOthers(t, results, laid(&r))
	}
	for _, m := range someMsgs() {
		noOthers(t, messages, laid(&m))
	}
}

func noOthers[T any](t *testing.T, k kind[T], s string) {
	t.Helper()
	if !k.reads(t, s) {
		t.Fatalf("%q is not read", s)
	}
	for n := range len(s) {
		if k.reads(t, s[:n]) {
			t.Errorf("%q is read cut at %d", s, n)
		}
		// What is left of a long number, and all behind, may be another thing's.
		k.reads(t, s[n+1:])
	}
	for b := range 256 {
		if k.reads(t, s+string([]byte{byte(b)})) {
			t.Errorf("%q is read with %x behind", s, b)
		}
	}
	if k.reads(t, s+s) {
		t.Errorf("%q is read twice", s)
	}
}

// turned are bytes that stand at an edge of some field, of bools and of numbers'
// form, and some beside them.
const turned = "\x00\x01\x02\x03\x04\x05\x06\x07\x08\x09\x0a\x0b\x0c\x0d\x0f\x10\x18\x20\x21\x40\x64\x65\x7f\x80\x81\xff"

func TestBytesThatAreTurned(t *testing.T) { // P16.2, P16.3: each byte into others
	turn := func(s string, reads func(string) bool) {
		if len(s) > 150 {
			return
		}
		b := []byte(s)
		for i, was := range b {
			for j := range len(turned) {
				b[i] = turned[j]
				reads(string(b))
			}
			b[i] = was
		}
	}
	for _, e := range someEntries() {
		turn(laid(&e), func(s string) bool { return entries.reads(t, s) })
	}
	for _, r := range someResults()[:5] {
		turn(laid(&r), func(s string) bool { return results.reads(t, s) })
	}
	for _, m := range someMsgs() {
		turn(laid(&m), func(s string) bool { return messages.reads(t, s) })
	}
}

func TestNumbersOfOtherForms(t *testing.T) { // P16.2, P16.3: in more bytes than they want
	for _, e := range someEntries() {
		noLonger(t, entries, laid(&e), 3)
	}
	for _, r := range someResults()[:5] {
		noLonger(t, results, laid(&r), 5)
	}
	for _, m := range someMsgs() {
		noLonger(t, messages, laid(&m), 7)
	}
}

// noLonger puts a number's nought behind each byte; of those that stand ahead
// of the first text none may be read.
func noLonger[T any](t *testing.T, k kind[T], s string, sure int) {
	t.Helper()
	if len(s) > 400 {
		return
	}
	for i := range len(s) {
		for _, more := range []string{"\x00", "\x80\x00"} {
			one := s[:i] + string([]byte{s[i] | 0x80}) + more + s[i+1:]
			if k.reads(t, one) && i < sure && s[i] < 0x80 {
				t.Errorf("%q is read as %q", one, s)
			}
		}
	}
}

func TestBoolsThatAreNone(t *testing.T) { // P16.2
	for b := 2; b < 256; b++ {
		bad := string([]byte{byte(b)})
		for _, s := range []string{"\x00" + bad + "\x00\x00\x00", "\x00" + bad + "\x01\x00\x00\x00", "\x00" + bad + "\x00\x00\x00\x00"} {
			if results.reads(t, s) {
				t.Errorf("the result %x is read", s)
			}
		}
		want := hexed(t, "01 01 01 06 3* 6* 2* 3* ") + bad + hexed(t, "03 00 01 02 00")
		if entries.reads(t, want) {
			t.Errorf("the entry %x is read", want)
		}
		vote := hexed(t, "02 00 05 00 00 00 ") + bad + hexed(t, "00 4* 10* 8* 23* 5*")
		if messages.reads(t, vote) {
			t.Errorf("the message %x is read", vote)
		}
	}
}

func TestNumbersThatHaveNoRoom(t *testing.T) { // P16.2, R1: none is taken for a lesser one
	for _, n := range []uint64{1 << 31, 1 << 32, 1<<32 + 1, 1 << 33, 1<<33 + 1, 1 << 63, 1<<63 + 1, 1<<63 + 2, 1<<64 - 2, 1<<64 - 1} {
		number := string(binary.AppendUvarint(nil, n))
		for at := range 5 {
			if at == 0 || at == 4 {
				results.reads(t, strings.Repeat("\x00", at)+number+strings.Repeat("\x00", 4-at))
			}
		}
		for at := range 27 {
			entries.reads(t, "\x01\x01\x01"+strings.Repeat("\x00", at)+number+strings.Repeat("\x00", 20-min(at, 20)))
		}
		m := api.Msg{Kind: api.MsgTold, Told: api.Told{Proc: 1}}
		s := laid(&m)
		for i := range len(s) {
			if messages.reads(t, s[:i]+number+s[i+1:]) && n > two40 {
				t.Errorf("%d instead of the byte %d is read", n, i)
			}
		}
	}
}

func TestCountsThatLie(t *testing.T) { // P16.2, R1: no room is made for what is not there
	for _, n := range []uint64{1, 2, 5, 6, 8, 9, 255, 1 << 20, 1 << 31, 1 << 40, 1 << 62, 1 << 63, math.MaxUint64} {
		count := string(binary.AppendUvarint(nil, n))
		for _, behind := range []string{"", "\x00", "\x00\x01\x02", strings.Repeat("\x00", 100), strings.Repeat("\x18\x01\x01\x01"+strings.Repeat("\x00", 21), 4)} {
			entries.reads(t, hexed(t, "01 01 02 20*")+count+behind)
			messages.reads(t, hexed(t, "03 00 01 01 01 01 00")+count+behind)
			messages.reads(t, hexed(t, "05 00 01 00 00 00 00 00 01 01")+count+behind)
			messages.reads(t, hexed(t, "05 00 01 00 00 00 00 00 01 01 01 00")+count+behind)
			results.reads(t, "\x00\x00"+count+behind)
			results.reads(t, "\x00\x00\x00"+count+behind)
		}
	}
}

func TestEntriesOfAMessageThatAreNone(t *testing.T) { // P16.2, P16.3: a text that is not just one entry's bytes
	good := hexed(t, "01 01 01 21*")
	for one, want := range map[string]bool{
		good: true, "": false, good + "\x00": false, good[:len(good)-1]: false, "\x00" + good[1:]: false, good + good: false, good[:2] + "\x03" + good[3:]: false,
		hexed(t, "01 01 02 20* 01 00"): true, hexed(t, "01 01 02 20* 02 01 00"): false, hexed(t, "01 01 02 21*"): false,
	} {
		for _, l := range [][]string{{one}, {good, one}, {one, good}, {good, good, good, good, good, good, good, one}} {
			s := hexed(t, "03 00 01 01 01 01 00") + string(rune(len(l)))
			for _, text := range l {
				s += string(rune(len(text))) + text
			}
			if got := messages.reads(t, s+hexed(t, "4* 10* 8* 23* 5*")); got != want {
				t.Errorf("%x among the entries: %t", one, got)
			}
		}
	}
}

func TestAllSmallResults(t *testing.T) { // P16.2, P16.3: all bytes of some few
	alphabet := "\x00\x01\x02\x0f\x10\x80\xff"
	count := 0
	var all func(s string, n int)
	all = func(s string, n int) {
		if results.reads(t, s) {
			count++
		}
		for i := 0; n > 0 && i < len(alphabet); i++ {
			all(s+alphabet[i:i+1], n-1)
		}
	}
	all("", 6)
	// Of five bytes: 4 errors, 2 bools, no Row, no Value, 5 versions; of six
	// bytes there are those with a Row or Value of one byte, or a Version of two.
	if count < 4*2*5 {
		t.Errorf("only %d are read", count)
	}
}

func TestSame(t *testing.T) { // P16.1: of any two, such that may not be too
	all := append(someEntries(), api.Entry{}, api.Entry{Kind: -1, Cmd: api.Cmd{Kind: 99, Key: long(99)}, Members: []int{9, -9, 9}})
	for i, a := range all {
		for j, b := range all {
			if got := Same(a, b); got != (alike(a, b)) || i == j && !got {
				t.Errorf("Same(%s, %s): %t", short(a), short(b), got)
			}
		}
		eachOther(a, func(b api.Entry) {
			want := alike(a, b)
			if Same(a, b) != want || Same(b, a) != want {
				t.Errorf("Same(%s, %s): not %t", short(a), short(b), want)
			}
		})
	}
	lists := listsOf(3, -1, 2)
	for _, l := range lists {
		for _, k := range lists {
			if got := Same(api.Entry{Members: l}, api.Entry{Members: k}); got != slices.Equal(l, k) {
				t.Errorf("Same of the members %v, %v: %t", l, k, got)
			}
		}
	}
	if !Same(api.Entry{Members: []int{}}, api.Entry{}) || !Same(api.Entry{}, api.Entry{Members: []int{}}) {
		t.Error("a list that is empty, and one that is nil, are not the same")
	}
}

func TestListsThatAreNilOrEmpty(t *testing.T) { // R4, P16.3
	for _, none := range [][]int{nil, {}, make([]int, 0, 9)} {
		e := api.Entry{Index: 1, Term: 1, Kind: api.EntCmd, Members: none}
		if s, f := EncodeEntry(e); s != hexed(t, "01 01 01 21*") || f != api.OK || Entry(e) != api.OK {
			t.Errorf("%x, %d", s, f)
		}
		e.Kind = api.EntConf
		if s, f := EncodeEntry(e); s != "" || f != api.ErrArg || Entry(e) != api.ErrArg {
			t.Errorf("%x, %d", s, f)
		}
		for _, l := range [][]api.Entry{nil, {}, make([]api.Entry, 0, 9)} {
			m := api.Msg{Kind: api.MsgVote, Entries: l, Base: api.Base{Members: none}}
			if s, f := EncodeMsg(m); s != hexed(t, "01 6* 1* 4* 10* 8* 23* 5*") || f != api.OK || Msg(m) != api.OK {
				t.Errorf("%x, %d", s, f)
			}
			m.Kind = api.MsgSnap
			m.Base.Index, m.Base.Term = 1, 1
			if s, f := EncodeMsg(m); s != "" || f != api.ErrArg || Msg(m) != api.ErrArg {
				t.Errorf("%x, %d", s, f)
			}
		}
	}
}

// over is a text that changes with b.
func over(b []byte) string { return unsafe.String(unsafe.SliceData(b), len(b)) }

// fullest are a message with each kind of list, and one with each kind of text,
// whose texts are made of own.
func fullest(own func(string) string) []api.Msg {
	put := api.Op{Kind: api.OpCheck, Row: own("row"), Col: own("col"), Value: own("value"), Has: true, Expect: own("expect")}
	return []api.Msg{
		{Kind: api.MsgAppend, Term: 5, Entries: []api.Entry{
			{Index: 1, Term: 1, Kind: api.EntCmd, Cmd: api.Cmd{Kind: api.CmdRow, Seq: 1, Op: put}},
			{Index: 2, Term: 1, Kind: api.EntConf, Members: []int{0, 1, 2}},
			{Index: 3, Term: 1, Kind: api.EntConf, Members: []int{1, 2, 3, 4}},
			{Index: 4, Term: 1, Kind: api.EntCmd, Cmd: api.Cmd{Kind: api.CmdMeta, Proc: 1, Key: own("key"), Value: own("value")}},
			{Index: 5, Term: 1, Kind: api.EntCmd, Cmd: api.Cmd{Kind: api.CmdWant, Want: api.Want{Key: own("key")}}},
		}},
		{Kind: api.MsgSnap, Base: api.Base{Index: 1, Term: 1, Members: []int{0, 2, 4}}, Data: own("cells of a tablet")},
		{Kind: api.MsgRequest, Request: api.Request{Seq: 1, Op: put}},
		{Kind: api.MsgReply, Reply: api.Reply{Seq: 1, Result: api.Result{Row: own("row"), Value: own("value")}}},
		{Kind: api.MsgAsk, Ask: api.Ask{Cmd: api.Cmd{Kind: api.CmdSplit, Proc: 1, Key: own("key"), Group: 4}, In: -1, Out: -1}},
	}
}

func TestWhatIsHandedInIsNotKept(t *testing.T) { // R5
	var raws [][]byte
	changing := func(s string) string {
		raws = append(raws, []byte(s))
		return over(raws[len(raws)-1])
	}
	msgs, was := fullest(changing), fullest(strings.Clone)
	var laidFirst []string
	for _, m := range msgs {
		s, e := EncodeMsg(m)
		if e != api.OK {
			t.Fatal(e)
		}
		laidFirst = append(laidFirst, s)
		if m.Kind == api.MsgAppend {
			s, _ = EncodeEntry(m.Entries[0])
			laidFirst = append(laidFirst, s)
		}
	}
	r := api.Result{Row: changing("row"), Value: changing("value")}
	s, _ := EncodeResult(r)
	laidFirst = append(laidFirst, s)

	for _, b := range raws {
		clear(b)
	}
	clear(msgs[0].Entries[1].Members)
	clear(msgs[0].Entries)
	clear(msgs[1].Base.Members)

	var want []string
	for _, m := range was {
		want = append(want, laid(&m))
		if m.Kind == api.MsgAppend {
			want = append(want, laid(&m.Entries[0]))
		}
	}
	want = append(want, laid(&api.Result{Row: "row", Value: "value"}))
	if !slices.Equal(laidFirst, want) {
		t.Errorf("the bytes change with what was handed in: %q", laidFirst)
	}
}

func TestBytesHandedInAreNotKept(t *testing.T) { // R5
	for _, m := range fullest(strings.Clone) {
		raw := []byte(laid(&m))
		back, e := DecodeMsg(over(raw))
		clear(raw)
		if e != api.OK || !alike(back, m) {
			t.Errorf("%s, %d: it changes with the bytes", short(back), e)
		}
		for _, one := range m.Entries {
			raw := []byte(laid(&one))
			back, e := DecodeEntry(over(raw))
			clear(raw)
			if e != api.OK || !alike(back, one) {
				t.Errorf("%s, %d: it changes with the bytes", short(back), e)
			}
		}
	}
	r := api.Result{Row: "row", Value: "value"}
	raw := []byte(laid(&r))
	back, e := DecodeResult(over(raw))
	clear(raw)
	if e != api.OK || back != r {
		t.Errorf("%+v, %d: it changes with the bytes", back, e)
	}
}

func TestWhatIsHandedInIsNotChanged(t *testing.T) { // R5: nor the room behind its ends
	room := func() ([]api.Entry, []int) {
		guarded := []int{0, 1, 2, 77, 78}
		l := []api.Entry{
			{Index: 1, Term: 1, Kind: api.EntConf, Members: guarded[:3]},
			{Index: 2, Term: 1, Kind: api.EntCmd, Cmd: api.Cmd{Kind: api.CmdRow, Seq: 1, Op: putOp}, Members: guarded[3:3]},
			{Index: 99}, {Index: 98},
		}
		return l, guarded
	}
	l, members := room()
	wantL, wantMembers := room()
	for _, kind := range []int{api.MsgAppend, api.MsgSnap, api.MsgVote, 0} {
		m := api.Msg{Kind: kind, Entries: l[:2], Base: api.Base{Index: 1, Term: 1, Members: members[:3]}}
		Msg(m)
		EncodeMsg(m)
		m.Base = api.Base{}
		Msg(m)
		EncodeMsg(m)
		Members(members[:3])
		for _, e := range l {
			Entry(e)
			EncodeEntry(e)
			Same(e, l[0])
		}
		if !alike(l, wantL) || !slices.Equal(members, wantMembers) {
			t.Fatalf("of the kind %d: %v, %v", kind, l, members)
		}
	}
}

// textsOf are all texts within v that have bytes.
func textsOf(v reflect.Value) (l []string) {
	switch v.Kind() {
	case reflect.String:
		if v.Len() > 0 {
			l = append(l, v.String())
		}
	case reflect.Struct:
		for i := range v.NumField() {
			l = append(l, textsOf(v.Field(i))...)
		}
	case reflect.Slice:
		for i := range v.Len() {
			l = append(l, textsOf(v.Index(i))...)
		}
	}
	return l
}

// shares says whether one of the two begins within the other one.
func shares(a, b string) bool {
	begins := func(s string) uintptr { return uintptr(unsafe.Pointer(unsafe.StringData(s))) }
	return begins(a) < begins(b)+uintptr(len(b)) && begins(b) < begins(a)+uintptr(len(a))
}

func TestAnswersAreNewMemory(t *testing.T) { // R5
	for _, m := range fullest(strings.Clone) {
		s, _ := EncodeMsg(m)
		again, _ := EncodeMsg(m)
		one, _ := DecodeMsg(s)
		two, _ := DecodeMsg(s)
		seen := append(textsOf(reflect.ValueOf(one)), textsOf(reflect.ValueOf(two))...)
		seen = append(append(seen, textsOf(reflect.ValueOf(m))...), s, again)
		for i, a := range seen {
			for _, b := range seen[:i] {
				if shares(a, b) {
					t.Errorf("of the kind %d: %q shares with %q", m.Kind, a, b)
				}
			}
		}
	}
}

func TestListsThatAreAnsweredAndThenChanged(t *testing.T) { // R5
	for _, m := range fullest(strings.Clone)[:2] {
		s, _ := EncodeMsg(m)
		for i := range 6 {
			one, _ := DecodeMsg(s)
			two, _ := DecodeMsg(s)
			lists := []*[]int{&one.Base.Members}
			for j := range one.Entries {
				lists = append(lists, &one.Entries[j].Members)
			}
			if i >= len(lists) {
				break
			}
			var was [][]int
			for _, l := range lists {
				was = append(was, slices.Clone(*l))
			}
			// Over the end too: what stands behind is no other list's.
			changed := append(*lists[i], 91, 92, 93, 94, 95)
			for j := range changed {
				changed[j] = 99
			}
			clear((*lists[i])[:cap(*lists[i])])
			for j := range lists {
				if i != j && !slices.Equal(*lists[j], was[j]) {
					t.Errorf("what is laid over the list %d changes the list %d", i, j)
				}
			}
			clear(one.Entries[:cap(one.Entries)])
			if third, _ := DecodeMsg(s); !alike(two, m) || !alike(third, m) {
				t.Errorf("what was answered is not apart: %s, %s", short(two), short(third))
			}
		}
	}
}

func TestTheSameIsAnsweredAgain(t *testing.T) { // R6: whatever was asked between
	msgs := someMsgs()
	for range 3 {
		for _, m := range msgs {
			s, e := EncodeMsg(m)
			DecodeMsg(s + "\x00")
			EncodeMsg(api.Msg{Kind: 99})
			DecodeEntry(s)
			back, f := DecodeMsg(s)
			if s != laid(&m) || e != api.OK || f != api.OK || !alike(back, m) {
				t.Fatalf("%s: %x, %d, %d", short(m), s, e, f)
			}
		}
	}
}

func TestHugeThings(t *testing.T) { // R1
	many := make([]api.Entry, 1<<20)
	for _, m := range []api.Msg{
		{Kind: api.MsgAppend, Entries: many},
		{Kind: api.MsgVote, Entries: many},
		{Kind: api.MsgSnap, Base: api.Base{Index: 1, Term: 1, Members: make([]int, 1<<24)}},
		{Kind: api.MsgSnap, Base: api.Base{Index: 1, Term: 1, Members: []int{0}}, Data: long(1 << 26)},
		{Kind: api.MsgRequest, Request: api.Request{Seq: 1, Op: api.Op{Kind: api.OpPut, Row: "a", Col: "x", Value: long(1 << 26)}}},
		{Kind: api.MsgAppend, Entries: []api.Entry{{Index: 1, Term: 1, Kind: api.EntCmd, Cmd: api.Cmd{Kind: api.CmdMeta, Proc: 1, Key: "k", Value: long(1 << 26)}}}},
	} {
		if s, e := EncodeMsg(m); s != "" || e != api.ErrArg || Msg(m) != api.ErrArg {
			t.Errorf("of the kind %d: %d bytes, %d", m.Kind, len(s), e)
		}
	}
	for _, b := range []string{"\x00", "\x01", "\x08", "\x7f", "\x80", "\xff"} {
		s := strings.Repeat(b, 1<<24)
		_, e := DecodeMsg(s)
		_, f := DecodeEntry(s)
		_, g := DecodeResult(s)
		if e != api.ErrForm || f != api.ErrForm || g != api.ErrForm {
			t.Errorf("many %x: %d, %d, %d", b, e, f, g)
		}
	}
}

func FuzzBytesAreAsTheWordsSay(f *testing.F) { // P16.1 to P16.3, W9, R1, R2
	for _, e := range someEntries() {
		f.Add(laid(&e))
	}
	for _, r := range someResults()[:5] {
		f.Add(laid(&r))
	}
	for _, m := range someMsgs() {
		f.Add(laid(&m))
	}
	f.Fuzz(func(t *testing.T, s string) {
		entries.reads(t, s)
		results.reads(t, s)
		if messages.reads(t, s) {
			m, _ := DecodeMsg(s)
			msgHolds(t, m)
		}
	})
}
