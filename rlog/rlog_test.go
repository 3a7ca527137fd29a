package rlog

import (
	"encoding/binary"
	"fmt"
	"math"
	"math/rand"
	"slices"
	"testing"
	"unsafe"

	"acreage/api"
)

const top = uint64(math.MaxUint64)

// slow is a log as the words have it: each call goes through all entries.
type slow struct {
	base api.Base
	list []api.Entry
}

func slowMayBe(b api.Base) bool {
	zero := b.Index == 0 && b.Term == 0 && len(b.Members) == 0
	return zero || b.Index != 0 && b.Term != 0 && len(b.Members) != 0
}

func slowFollow(index, term uint64, list []api.Entry) bool {
	for _, e := range list {
		switch {
		case index == top:
			return false
		case e.Index-index != 1 || e.Index < index:
			return false
		case e.Term == 0 || term > e.Term:
			return false
		case e.Kind == 2 && len(e.Members) == 0:
			return false
		}
		index, term = e.Index, e.Term
	}
	return true
}

func slowNew(b api.Base, list []api.Entry) (*slow, api.Errno) {
	if !slowMayBe(b) || !slowFollow(b.Index, b.Term, list) {
		return nil, 2
	}
	return &slow{b, slices.Clone(list)}, 0
}

func (s *slow) last() (uint64, uint64) {
	index, term := s.base.Index, s.base.Term
	for _, e := range s.list {
		index, term = e.Index, e.Term
	}
	return index, term
}

func (s *slow) term(index uint64) (uint64, bool) {
	if index == s.base.Index {
		return s.base.Term, true
	}
	for _, e := range s.list {
		if e.Index == index {
			return e.Term, true
		}
	}
	return 0, false
}

func (s *slow) slice(from uint64, most int) []api.Entry {
	var some []api.Entry
	for _, e := range s.list {
		if e.Index >= from && from > s.base.Index && len(some) < most {
			some = append(some, e)
		}
	}
	return some
}

func (s *slow) members(at uint64) []int {
	list := s.base.Members
	for _, e := range s.list {
		if e.Kind == 2 && e.Index <= at {
			list = e.Members
		}
	}
	return list
}

func (s *slow) append(e api.Entry) api.Errno {
	index, term := s.last()
	if !slowFollow(index, term, []api.Entry{e}) {
		return 2
	}
	s.list = append(slices.Clone(s.list), e)
	return 0
}

func (s *slow) refuses(index, term uint64, entries []api.Entry) bool {
	here, ok := s.term(index)
	if !slowFollow(index, term, entries) || index >= s.base.Index && (!ok || here != term) {
		return true
	}
	for _, e := range entries {
		if index < s.base.Index && e.Index == s.base.Index && e.Term != s.base.Term {
			return true
		}
	}
	return false
}

func (s *slow) put(index, term uint64, entries []api.Entry) (last, from uint64, ok bool) {
	if s.refuses(index, term, entries) {
		if last, _ := s.last(); index > last {
			return last, 0, false
		}
		if index == 0 || index-1 < s.base.Index {
			return s.base.Index, 0, false
		}
		return index - 1, 0, false
	}
	for _, e := range entries {
		if e.Index <= s.base.Index {
			continue
		}
		here, there := s.term(e.Index)
		if from == 0 && (!there || here != e.Term) {
			from = e.Index
		}
	}
	if from != 0 {
		isAhead := func(e api.Entry) bool { return e.Index < from }
		isBehind := func(e api.Entry) bool { return e.Index >= from }
		s.list = slices.Concat(only(s.list, isAhead), only(entries, isBehind))
	}
	return index + uint64(len(entries)), from, true
}

func only(list []api.Entry, is func(api.Entry) bool) []api.Entry {
	var some []api.Entry
	for _, e := range list {
		if is(e) {
			some = append(some, e)
		}
	}
	return some
}

func (s *slow) compact(to uint64) api.Errno {
	term, ok := s.term(to)
	if !ok {
		return 2
	}
	s.base = api.Base{Index: to, Term: term, Members: s.members(to)}
	s.list = only(s.list, func(e api.Entry) bool { return e.Index > to })
	return 0
}

func (s *slow) restore(b api.Base) api.Errno {
	if !slowMayBe(b) || b.Index == 0 || b.Index < s.base.Index {
		return 2
	}
	term, ok := s.term(b.Index)
	s.base = b
	s.list = only(s.list, func(e api.Entry) bool { return ok && term == b.Term && e.Index > b.Index })
	return 0
}

func (s *slow) copy() *slow { return &slow{s.base, slices.Clone(s.list)} }

// pair is a log, and the slow one to which the same was done.
type pair struct {
	t    *testing.T
	fast *Log
	slow *slow
}

// both makes a pair, which the slow one says may be.
func both(t *testing.T, b api.Base, list []api.Entry) pair {
	t.Helper()
	p, ok := tried(t, b, list)
	if !ok {
		t.Fatalf("New(%v, %s) is not to be", b, short(list))
	}
	return p
}

func tried(t *testing.T, b api.Base, list []api.Entry) (pair, bool) {
	t.Helper()
	l, e := New(b, list)
	s, want := slowNew(b, list)
	if e != want || (l == nil) != (e != 0) {
		t.Fatalf("New(%v, %s) = %v, %d, not %d", b, short(list), l != nil, e, want)
	}
	return pair{t, l, s}, e == 0
}

func (p pair) copy() pair {
	p.t.Helper()
	return pair{p.t, p.fast.Copy(), p.slow.copy()}
}

func (p pair) append(e api.Entry) api.Errno {
	p.t.Helper()
	return p.same(fmt.Sprintf("Append(%s)", short([]api.Entry{e})), p.fast.Append(e), p.slow.append(e))
}

func (p pair) compact(to uint64) api.Errno {
	p.t.Helper()
	return p.same(fmt.Sprintf("Compact(%d)", to), p.fast.Compact(to), p.slow.compact(to))
}

func (p pair) restore(b api.Base) api.Errno {
	p.t.Helper()
	return p.same(fmt.Sprintf("Restore(%v)", b), p.fast.Restore(b), p.slow.restore(b))
}

func (p pair) same(what string, got, want api.Errno) api.Errno {
	p.t.Helper()
	if got != want {
		p.t.Fatalf("%s = %d, not %d, of %s", what, got, want, p.slow)
	}
	return got
}

func (p pair) put(index, term uint64, entries []api.Entry) (uint64, uint64, bool) {
	p.t.Helper()
	last, from, ok := p.fast.Put(index, term, entries)
	l, f, o := p.slow.put(index, term, entries)
	if last != l || from != f || ok != o {
		p.t.Fatalf("Put(%d, %d, %s) = %d, %d, %v, not %d, %d, %v, before %s", index, term, short(entries), last, from, ok, l, f, o, p.slow)
	}
	return last, from, ok
}

// looks holds what the log answers against the slow one, at each index there
// and at some where none is.
func (p pair) looks() {
	p.t.Helper()
	if b := p.fast.Base(); b.Index != p.slow.base.Index || b.Term != p.slow.base.Term || !slices.Equal(b.Members, p.slow.base.Members) {
		p.t.Fatalf("Base = %v, not %v", b, p.slow.base)
	}
	index, term := p.fast.Last()
	if i, t := p.slow.last(); index != i || term != t {
		p.t.Fatalf("Last = %d, %d, not %d, %d", index, term, i, t)
	}
	p.asked(0, 1, 1<<32, 1<<63-1, 1<<63, top-1, top)
	for at := p.slow.base.Index - 2; at != index+3; at++ {
		p.asked(at)
	}
}

func (p pair) asked(indices ...uint64) {
	p.t.Helper()
	for _, at := range indices {
		term, ok := p.fast.Term(at)
		if want, is := p.slow.term(at); term != want || ok != is {
			p.t.Fatalf("Term(%d) = %d, %v of %s", at, term, ok, p.slow)
		}
		if got, want := p.fast.Members(at), p.slow.members(at); !slices.Equal(got, want) {
			p.t.Fatalf("Members(%d) = %v, not %v, of %s", at, got, want, p.slow)
		}
		for _, most := range []int{math.MinInt, -1, 0, 1, 2, len(p.slow.list), 1 << 32, math.MaxInt} {
			if got, want := p.fast.Slice(at, most), p.slow.slice(at, most); !alike(got, want) {
				p.t.Fatalf("Slice(%d, %d) = %s, not %s, of %s", at, most, short(got), short(want), p.slow)
			}
		}
	}
}

func alike(a, b []api.Entry) bool {
	return slices.EqualFunc(a, b, func(x, y api.Entry) bool {
		return x.Index == y.Index && x.Term == y.Term && x.Kind == y.Kind && x.Cmd == y.Cmd && slices.Equal(x.Members, y.Members)
	})
}

func short(list []api.Entry) string {
	text := ""
	for _, e := range list {
		text += fmt.Sprintf(" %d:%d", e.Index, e.Term)
		if e.Kind == 2 {
			text += fmt.Sprint(e.Members)
		}
		text += e.Cmd.Key
	}
	return "{" + text + " }"
}

func (s *slow) String() string {
	return fmt.Sprintf("%d:%d%v%s", s.base.Index, s.base.Term, s.base.Members, short(s.list))
}

// of makes entries of these terms; what else they have tells by whom they are.
func of(who string, from uint64, terms ...uint64) []api.Entry {
	var list []api.Entry
	for i, term := range terms {
		e := api.Entry{Index: from + uint64(i), Term: term, Kind: api.EntCmd}
		e.Cmd = api.Cmd{Kind: api.CmdMeta, Proc: e.Index, Key: who, Value: "v"}
		list = append(list, e)
	}
	return list
}

func conf(index, term uint64, members ...int) api.Entry {
	return api.Entry{Index: index, Term: term, Kind: api.EntConf, Members: members}
}

// mixed makes of each third entry an EntConf, and of some others such of a
// kind that there is not, with members and without.
func mixed(list []api.Entry) []api.Entry {
	for i := range list {
		switch e := &list[i]; (e.Index + e.Term) % 6 {
		case 1, 3:
			e.Kind, e.Members = api.EntConf, []int{int(e.Index % 5), int(e.Term), i}
		case 4:
			e.Kind, e.Members = 0, []int{9}
		case 5:
			e.Kind, e.Members = -3, nil
		}
	}
	return list
}

// rising are all rows of at most so many terms that do not fall.
func rising(most int, low, high uint64) [][]uint64 {
	all := [][]uint64{nil}
	if most == 0 {
		return all
	}
	for term := low; term <= high; term++ {
		for _, row := range rising(most-1, term, high) {
			all = append(all, append([]uint64{term}, row...))
		}
	}
	return all
}

// rows are all rows of at most so many terms.
func rows(most int, terms ...uint64) [][]uint64 {
	all := [][]uint64{nil}
	if most == 0 {
		return all
	}
	for _, term := range terms {
		for _, row := range rows(most-1, terms...) {
			all = append(all, append([]uint64{term}, row...))
		}
	}
	return all
}

var bases = []api.Base{{}, {Index: 1, Term: 1, Members: []int{0}}, {Index: 4, Term: 2, Members: []int{0, 2, 4}}}

// logs are logs of each base, of all rows of at most so many terms.
func logs(most int) []slow {
	var all []slow
	for _, b := range bases {
		for _, row := range rising(most, max(b.Term, 1), 3) {
			all = append(all, slow{b, mixed(of("here", b.Index+1, row...))})
		}
	}
	return all
}

func TestTheChaptersExamples(t *testing.T) { // P20.1 to P20.6
	is := func(got, want string) {
		t.Helper()
		if got != want {
			t.Errorf("%s, not %s", got, want)
		}
	}
	l, e := New(api.Base{}, of("", 1, 1, 1, 2))
	term := func(index uint64) string {
		n, ok := l.Term(index)
		return fmt.Sprint(n, ok)
	}
	last := func() string {
		index, term := l.Last()
		return fmt.Sprint(index, term)
	}
	put := func(index, term uint64, entries []api.Entry) string {
		last, from, ok := l.Put(index, term, entries)
		return fmt.Sprint(last, from, ok)
	}
	done := func(e api.Errno) string { return fmt.Sprint(int(e)) }
	members := []int{0}

	is(done(e), "0")
	is(last(), "3 2")
	is(term(0), "0 true")
	is(term(2), "1 true")
	is(term(4), "0 false")
	is(short(l.Slice(2, 1)), "{ 2:1 }")
	is(put(3, 2, of("", 4, 2)), "4 4 true")
	is(last(), "4 2")
	is(put(2, 1, of("", 3, 3, 3)), "4 3 true")
	is(last(), "4 3")
	is(put(2, 1, of("", 3, 3)), "3 0 true")
	is(put(6, 3, nil), "4 0 false")
	is(put(4, 2, nil), "3 0 false")
	is(put(0, 1, nil), "0 0 false")
	is(done(l.Compact(3)), "0")
	is(term(2), "0 false")
	is(term(3), "3 true")
	is(put(1, 1, of("", 2, 1, 3, 3)), "4 0 true")
	is(done(l.Restore(api.Base{Index: 9, Term: 4, Members: members})), "0")
	is(last(), "9 4")
	is(done(l.Compact(8)), "2")
	is(done(l.Restore(api.Base{Index: 8, Term: 4, Members: members})), "2")
}

func TestNewOfEachBase(t *testing.T) { // P20.1
	numbers := []uint64{0, 1, 2, 1 << 40, 1 << 63, top - 1, top}
	for _, index := range numbers {
		for _, term := range numbers {
			for _, members := range [][]int{nil, {}, {0}, {0, 1, 2}, {2, 1}, {-1}, {math.MaxInt, 0, 0}} {
				b := api.Base{Index: index, Term: term, Members: members}
				for _, from := range []uint64{index + 1, index, index + 2, 0, 1} {
					for _, terms := range [][]uint64{nil, {term}, {term + 1}, {term - 1}, {top}, {0}, {1}, {term, term + 1}, {term, top, top}} {
						if p, ok := tried(t, b, of("", from, terms...)); ok {
							p.looks()
							p.copy().looks()
						}
					}
				}
			}
		}
	}
}

func TestBasesThatMayNotBe(t *testing.T) { // P20.1, P20.6
	for _, b := range []api.Base{
		{Index: 1},
		{Term: 1},
		{Members: []int{0}},
		{Index: 1, Term: 1},
		{Index: 1, Term: 1, Members: []int{}},
		{Index: 1, Members: []int{0}},
		{Term: 1, Members: []int{0}},
		{Index: top, Term: top},
	} {
		if l, e := New(b, nil); l != nil || e != api.ErrArg {
			t.Errorf("New(%v): %d", b, e)
		}
		for _, s := range logs(2) {
			p := both(t, s.base, s.list)
			if p.restore(b) != api.ErrArg {
				t.Errorf("Restore(%v)", b)
			}
			p.looks()
		}
	}
	for _, none := range [][]int{nil, {}} {
		if l, e := New(api.Base{Members: none}, []api.Entry{}); l == nil || e != api.OK {
			t.Errorf("the zero base: %d", e)
		}
	}
}

func TestEntriesThatDoNotFollow(t *testing.T) { // P20.1, P20.3, P20.4: each of one to three entries is what it should not be
	for _, b := range bases {
		last := slices.Max([]uint64{b.Term, 1})
		for size := 1; size <= 3; size++ {
			for at := range size {
				for what, spoil := range []func(*api.Entry){
					func(e *api.Entry) { e.Index++ },
					func(e *api.Entry) { e.Index-- },
					func(e *api.Entry) { e.Index = 0 },
					func(e *api.Entry) { e.Index = top },
					func(e *api.Entry) { e.Index += 1 << 32 },
					func(e *api.Entry) { e.Term = 0 },
					func(e *api.Entry) { e.Term-- },
					func(e *api.Entry) { e.Kind, e.Members = api.EntConf, nil },
					func(e *api.Entry) { e.Kind, e.Members = api.EntConf, []int{} },
				} {
					list := of("", b.Index+1, slices.Repeat([]uint64{last}, size)...)
					spoil(&list[at])
					if what == 6 && slowFollow(b.Index, b.Term, list) {
						t.Fatalf("%s follows %v", short(list), b)
					}
					if l, e := New(b, list); l != nil || e != api.ErrArg {
						t.Errorf("New(%v, %s): %d", b, short(list), e)
					}
					p := both(t, b, nil)
					if to, from, ok := p.put(b.Index, b.Term, list); to != b.Index || from != 0 || ok {
						t.Errorf("Put(%v, %s) = %d, %d, %v", b, short(list), to, from, ok)
					}
					for i, e := range list[:at+1] {
						if got := p.append(e); (got == api.OK) != (i < at) {
							t.Errorf("Append of %s to %v: %d", short(list), b, got)
						}
					}
					p.looks()
				}
			}
		}
	}
}

func TestWhatElseAnEntryHasCountsForNothing(t *testing.T) { // P20.1 to P20.4
	for _, kind := range []int{math.MinInt, -1, 0, api.EntCmd, api.EntConf, 3, 1<<32 + 2, math.MaxInt} {
		for _, members := range [][]int{nil, {}, {0}, {3, 3, -7, math.MaxInt}} {
			for _, cmd := range []api.Cmd{{}, {Kind: -1, Client: 99, Key: "\x00\xff", Op: api.Op{Kind: 7, Has: true}, Want: api.Want{In: -5}}} {
				e := api.Entry{Index: 1, Term: 1, Kind: kind, Cmd: cmd, Members: members}
				if p, ok := tried(t, api.Base{}, []api.Entry{e}); ok {
					p.looks()
				}
				p := both(t, api.Base{}, nil)
				p.append(e)
				p.looks()
				p = both(t, api.Base{}, nil)
				p.put(0, 0, []api.Entry{e})
				p.looks()
			}
		}
	}
}

func TestEachFewEntries(t *testing.T) { // P20.1 to P20.3: all rows of terms, with each index and each term behind them
	for _, b := range bases {
		for _, row := range rows(4, 0, 1, 2, 3) {
			list := mixed(of("here", b.Index+1, row...))
			p, ok := tried(t, b, list)
			if !ok {
				continue
			}
			p.looks()
			last, _ := p.slow.last()
			for index := last - 1; index != last+4; index++ {
				for term := range uint64(5) {
					for _, e := range []api.Entry{of("new", index, term)[0], conf(index, term, 1, 4), conf(index, term)} {
						other := p.copy()
						other.append(e)
						other.looks()
					}
				}
			}
			p.looks()
		}
	}
}

func TestEachPut(t *testing.T) { // P20.4: to each log of a few entries, behind each place, each few entries
	sent := rows(3, 1, 2, 3)
	for _, s := range logs(3) {
		for index := range uint64(9) {
			for term := range uint64(4) {
				for _, row := range sent {
					p := both(t, s.base, s.list)
					list := mixed(of("there", index+1, row...))
					_, _, ok := p.put(index, term, list)
					if !alike(p.fast.Slice(s.base.Index+1, 99), p.slow.list) {
						t.Fatalf("Put(%d, %d, %s) to %s leaves %s, not %s", index, term, short(list), s.String(), short(p.fast.Slice(s.base.Index+1, 99)), p.slow)
					}
					if ok && len(row) == 2 || !ok && len(row) == 0 {
						p.looks()
					}
				}
			}
		}
	}
}

func TestPutOfEntriesThatDoNotFollow(t *testing.T) { // P20.4: a gap, twice the same index, a falling term, a term of 0
	for _, s := range logs(3) {
		for index := range uint64(9) {
			for _, list := range [][]api.Entry{
				of("", index+2, 3),
				of("", index, 3),
				of("", 0, 3),
				of("", top, 3),
				of("", index+1, 3, 2),
				of("", index+1, 0),
				of("", index+1, 3, 0),
				slices.Concat(of("", index+1, 3), of("", index+1, 3)),
				slices.Concat(of("", index+1, 3), of("", index+3, 3)),
				slices.Concat(of("", index+1, 3), of("", index+2, 4), of("", index+2, 4)),
				slices.Concat(of("", index+1, 3), []api.Entry{conf(index+2, 3)}),
				{conf(index+1, 3)},
			} {
				for term := range uint64(4) {
					p := both(t, s.base, s.list)
					if _, _, ok := p.put(index, term, list); ok {
						t.Errorf("Put(%d, %d, %s) is ok", index, term, short(list))
					}
					p.looks()
				}
			}
		}
	}
}

func TestPutAndTheBase(t *testing.T) { // P20.4: entries that begin below the base, end below it, at it, behind it, by each term there
	b := api.Base{Index: 4, Term: 2, Members: []int{1}}
	for _, c := range []struct {
		index, term uint64
		terms       []uint64
		want        string
	}{
		{0, 0, nil, "0 0 true 2 3 3"},
		{0, 9, nil, "0 0 true 2 3 3"},
		{3, 9, nil, "3 0 true 2 3 3"},
		{0, 0, []uint64{9, 9, 9}, "3 0 true 2 3 3"},
		{0, 0, []uint64{1, 1, 1, 2}, "4 0 true 2 3 3"},
		{0, 0, []uint64{1, 1, 1, 1}, "4 0 false 2 3 3"},
		{0, 0, []uint64{1, 1, 1, 3}, "4 0 false 2 3 3"},
		{0, 0, []uint64{1, 1, 1, 3, 3, 3, 3}, "4 0 false 2 3 3"},
		{3, 2, []uint64{2}, "4 0 true 2 3 3"},
		{3, 1, []uint64{2, 2}, "5 0 true 2 3 3"},
		{3, 1, []uint64{2, 3}, "5 5 true 3"},
		{3, 1, []uint64{2, 2, 3, 3}, "7 0 true 2 3 3"},
		{3, 1, []uint64{2, 2, 3, 3, 3}, "8 8 true 2 3 3 3"},
		{3, 1, []uint64{2, 2, 2, 3, 3}, "8 6 true 2 2 3 3"},
		{3, 3, []uint64{2}, "4 0 false 2 3 3"},
		{3, 1, []uint64{1}, "4 0 false 2 3 3"},
		{4, 2, nil, "4 0 true 2 3 3"},
		{4, 1, nil, "4 0 false 2 3 3"},
		{4, 3, nil, "4 0 false 2 3 3"},
		{4, 0, nil, "4 0 false 2 3 3"},
		{4, 2, []uint64{2, 4}, "6 6 true 2 4"},
		{5, 2, []uint64{2, 2, 3}, "8 6 true 2 2 2 3"},
		{5, 1, []uint64{2, 2, 3}, "4 0 false 2 3 3"},
		{6, 1, nil, "5 0 false 2 3 3"},
		{7, 3, nil, "7 0 true 2 3 3"},
		{7, 3, []uint64{3}, "8 8 true 2 3 3 3"},
		{7, 2, []uint64{3}, "6 0 false 2 3 3"},
		{8, 3, nil, "7 0 false 2 3 3"},
		{top, 3, nil, "7 0 false 2 3 3"},
	} {
		p := both(t, b, of("here", 5, 2, 3, 3))
		last, from, ok := p.put(c.index, c.term, of("there", c.index+1, c.terms...))
		got := fmt.Sprint(last, from, ok)
		for _, e := range p.fast.Slice(5, 99) {
			got += fmt.Sprint(" ", e.Term)
			if (e.Cmd.Key == "there") != (from != 0 && e.Index >= from) {
				t.Errorf("Put(%d, %d, %v): the entry %d is from %s", c.index, c.term, c.terms, e.Index, e.Cmd.Key)
			}
		}
		if got != c.want {
			t.Errorf("Put(%d, %d, %v): %s, not %s", c.index, c.term, c.terms, got, c.want)
		}
		p.looks()
	}
}

func TestTheEndsOfNumbers(t *testing.T) { // P20.1 to P20.6, R1: indices and terms up to 2^64 - 1, behind which nothing follows
	edges := []uint64{0, 1, 2, 1 << 31, 1 << 32, 1<<63 - 1, 1 << 63, top - 3, top - 2, top - 1, top}
	for _, index := range []uint64{1, 1<<32 - 1, 1<<63 - 1, top - 3, top - 2, top - 1, top} {
		for _, terms := range [][]uint64{nil, {top}, {top - 1, top}, {top, top}, {1, 2, top}, {5, 5, 5, 5}} {
			p, ok := tried(t, api.Base{Index: index, Term: 1, Members: []int{0}}, of("here", index+1, terms...))
			if !ok {
				continue
			}
			p.looks()
			for _, at := range append(edges, index-1, index, index+1, index+uint64(len(terms)), index+uint64(len(terms))+1) {
				for _, term := range []uint64{0, 1, 5, top - 1, top} {
					for _, list := range [][]api.Entry{nil, of("there", at+1, top), of("there", at, top), of("there", 0, top), of("there", at+1, term, top), of("there", at+1, 1, 5, 5, 5, 6)} {
						other := p.copy()
						other.put(at, term, list)
						other.looks()
					}
					other := p.copy()
					other.append(of("there", at, term)[0])
					other.looks()
					other.restore(api.Base{Index: at, Term: term, Members: []int{3}})
					other.looks()
				}
				other := p.copy()
				other.compact(at)
				other.looks()
			}
			p.looks()
		}
	}
}

func TestEachCompactAndRestore(t *testing.T) { // P20.5, P20.6: to each index; with the term that is there, and with others
	for _, s := range logs(4) {
		for index := range uint64(11) {
			p := both(t, s.base, s.list)
			p.compact(index)
			p.looks()
			for _, term := range []uint64{0, 1, 2, 3, 4, top} {
				for _, members := range [][]int{nil, {}, {3}, {0, 1, 2}} {
					p := both(t, s.base, s.list)
					p.restore(api.Base{Index: index, Term: term, Members: members})
					p.looks()
					last, _ := p.slow.last()
					p.append(of("new", last+1, 3)[0])
					p.looks()
				}
			}
		}
	}
}

func TestRestoreKeepsWhatStandsBehindTheSamePlace(t *testing.T) { // P20.6
	b := api.Base{Index: 4, Term: 2, Members: []int{0, 1}}
	for _, c := range []struct {
		index, term uint64
		want        string
	}{
		{4, 2, "4:2[7]{ 5:2here 6:3here 7:3[2 3] }"},
		{4, 1, "4:1[7]{ }"},
		{4, 3, "4:3[7]{ }"},
		{5, 2, "5:2[7]{ 6:3here 7:3[2 3] }"},
		{5, 3, "5:3[7]{ }"},
		{6, 3, "6:3[7]{ 7:3[2 3] }"},
		{6, 2, "6:2[7]{ }"},
		{7, 3, "7:3[7]{ }"},
		{7, 4, "7:4[7]{ }"},
		{8, 3, "8:3[7]{ }"},
		{top, 1, "18446744073709551615:1[7]{ }"},
	} {
		p := both(t, b, append(of("here", 5, 2, 3), conf(7, 3, 2, 3)))
		if e := p.restore(api.Base{Index: c.index, Term: c.term, Members: []int{7}}); e != api.OK {
			t.Errorf("Restore(%d, %d): %d", c.index, c.term, e)
		}
		got := (&slow{p.fast.Base(), p.fast.Slice(c.index+1, 99)}).String()
		if got != c.want {
			t.Errorf("Restore(%d, %d): %s, not %s", c.index, c.term, got, c.want)
		}
		p.looks()
	}
}

func TestCompactOfALogWithoutMembers(t *testing.T) { // P20.5: over the zero base there need be none
	p := both(t, api.Base{}, append(of("", 1, 1, 1), conf(3, 2, 4), of("", 4, 2)[0]))
	for to := range uint64(5) {
		if e := p.compact(to); e != api.OK {
			t.Errorf("Compact(%d): %d", to, e)
		}
		p.looks()
		p.copy().looks()
		want := "[]"
		if to >= 3 {
			want = "[4]"
		}
		if got := fmt.Sprint(p.fast.Base().Members); got != want {
			t.Errorf("Compact(%d): members %s, not %s", to, got, want)
		}
	}
	if p.compact(3) != api.ErrArg || p.compact(5) != api.ErrArg || p.compact(4) != api.OK {
		t.Error("Compact at the base and beside it")
	}
	p.looks()
}

func TestCompactToTheBaseChangesNothing(t *testing.T) { // P20.5
	for _, s := range logs(3) {
		p := both(t, s.base, s.list)
		if p.compact(s.base.Index) != api.OK || !slices.Equal(p.fast.Base().Members, s.base.Members) || !alike(p.fast.Slice(s.base.Index+1, 99), s.list) {
			t.Errorf("%s is changed", s.String())
		}
		p.looks()
	}
}

func TestNoLog(t *testing.T) { // R3
	var nothing Log
	for _, l := range []*Log{nil, {}, &nothing, new(Log)} {
		for range 2 {
			if b := l.Base(); b.Index != 0 || b.Term != 0 || len(b.Members) != 0 {
				t.Errorf("Base: %v", b)
			}
			if index, term := l.Last(); index != 0 || term != 0 {
				t.Errorf("Last: %d, %d", index, term)
			}
			for _, at := range []uint64{0, 1, 2, top} {
				if term, ok := l.Term(at); term != 0 || ok {
					t.Errorf("Term(%d): %d, %v", at, term, ok)
				}
				if list := l.Slice(at, 9); len(list) != 0 {
					t.Errorf("Slice(%d): %v", at, list)
				}
				if list := l.Members(at); len(list) != 0 {
					t.Errorf("Members(%d): %v", at, list)
				}
				for _, list := range [][]api.Entry{nil, of("", at+1, 1), of("", at+5, 1)} {
					if last, from, ok := l.Put(at, 0, list); last != 0 || from != 0 || ok {
						t.Errorf("Put(%d): %d, %d, %v", at, last, from, ok)
					}
				}
				if e := l.Compact(at); e != api.ErrNil {
					t.Errorf("Compact(%d): %d", at, e)
				}
				for _, term := range []uint64{0, 1} {
					if e := l.Restore(api.Base{Index: at, Term: term, Members: []int{0}}); e != api.ErrNil {
						t.Errorf("Restore(%d): %d", at, e)
					}
					if e := l.Append(api.Entry{Index: at, Term: term, Kind: api.EntCmd}); e != api.ErrNil {
						t.Errorf("Append(%d): %d", at, e)
					}
				}
			}
			if l.Copy() != nil {
				t.Error("Copy")
			}
		}
	}
}

func TestAnErrorChangesNothing(t *testing.T) { // R2: and what is tried later goes on as if it had not been
	for _, s := range logs(3) {
		p := both(t, s.base, s.list)
		last, term := p.slow.last()
		for _, e := range []api.Errno{
			p.append(of("", last, term+1)[0]),
			p.append(of("", last+2, term+1)[0]),
			p.append(of("", last+1, 0)[0]),
			p.append(conf(last+1, term+1)),
			p.compact(last + 1),
			p.compact(s.base.Index - 1),
			p.restore(api.Base{Index: last + 1, Term: 9}),
			p.restore(api.Base{Index: last + 1, Members: []int{0}}),
			p.restore(api.Base{}),
		} {
			if e != api.ErrArg {
				t.Errorf("%d of %s", e, p.slow)
			}
			p.looks()
		}
		if p.append(of("", last+1, term+1)[0]) != api.OK {
			t.Errorf("nothing follows %s", s.String())
		}
		p.looks()
	}
}

// doSome does to a pair what numbers say, and tells whether it is a log that
// some later thing may come to.
func doSome(p pair, others []pair, next func(n int) uint64) pair {
	p.t.Helper()
	last, term := p.slow.last()
	here := p.slow.base.Index + next(len(p.slow.list)+1)
	there, _ := p.slow.term(here)
	odd := func(n uint64) uint64 { // mostly that, sometimes beside it
		switch next(9) {
		case 0:
			return n + 1
		case 1:
			return n - 1
		case 2:
			return next(12)
		}
		return n
	}
	some := func(index, term uint64) []api.Entry {
		var terms []uint64
		for range next(5) {
			term += []uint64{0, 0, 0, 1, 2, 1}[next(6)]
			terms = append(terms, odd(max(term, 1)))
			if next(3) != 0 {
				terms[len(terms)-1] = max(term, 1)
			}
		}
		return mixed(of(string(rune('a'+next(26))), index, terms...))
	}
	switch next(8) {
	case 0, 1:
		p.append(mixed(of("+", odd(last+1), odd(max(term, 1))))[0])
	case 2, 3:
		index := odd(here)
		p.put(index, odd(there), some(odd(index+1), there))
	case 4:
		p.put(here, there, some(here+1, there))
	case 5:
		other := others[next(len(others))]
		from := other.slow.base.Index + next(len(other.slow.list)+1)
		ahead, _ := other.slow.term(from)
		p.put(from, ahead, other.fast.Slice(from+1, int(next(6))))
	case 6:
		p.compact(odd(p.slow.base.Index + next(3)))
	case 7:
		if next(3) == 0 {
			p.restore(api.Base{Index: odd(here), Term: odd(there), Members: []int{int(next(5))}})
		}
		return p.copy()
	}
	return p
}

func TestManyThingsDone(t *testing.T) { // P20.1 to P20.6, R6: to a few logs, and to copies of them
	random := rand.New(rand.NewSource(20))
	next := func(n int) uint64 { return uint64(random.Intn(n)) }
	for range 150 {
		pairs := []pair{both(t, bases[next(3)], nil), both(t, bases[next(3)], nil), both(t, bases[next(3)], nil)}
		for range 60 {
			at := next(len(pairs))
			came := doSome(pairs[at], pairs, next)
			pairs[next(len(pairs))] = came
			for _, p := range pairs {
				p.looks()
			}
		}
	}
}

func TestTwoThatAreToldTheSame(t *testing.T) { // R6
	random := rand.New(rand.NewSource(6))
	next := func(n int) uint64 { return uint64(random.Intn(n)) }
	for range 100 {
		p := both(t, bases[next(3)], nil)
		for range 40 {
			doSome(p, []pair{p}, next)
		}
		one, other := p.copy(), p.copy()
		seed := random.Int63()
		for _, q := range []pair{one, other} {
			again := rand.New(rand.NewSource(seed))
			for range 20 {
				doSome(q, []pair{q}, func(n int) uint64 { return uint64(again.Intn(n)) })
				p.looks()
			}
		}
		other.slow = one.slow
		other.looks()
	}
}

// leader is whose log says what a follower is handed.
type leader struct{ list []api.Entry }

func (l leader) term(index uint64) uint64 {
	if index == 0 {
		return 0
	}
	return l.list[index-1].Term
}

// twoLeaders have the same up to so far, and no term in common behind it.
func twoLeaders(same []uint64, a, b []uint64) [2]leader {
	common := mixed(of("both", 1, same...))
	from := uint64(len(same)) + 1
	return [2]leader{
		{slices.Concat(common, mixed(of("a", from, a...)))},
		{slices.Concat(common, mixed(of("b", from, b...)))},
	}
}

// pairsOfLeaders are some of few entries.
func pairsOfLeaders() [][2]leader {
	var all [][2]leader
	for _, same := range rising(2, 1, 2) {
		for _, a := range [][]uint64{nil, {3}, {3, 3}, {3, 5}, {3, 5, 5}} {
			for _, b := range [][]uint64{nil, {4}, {4, 4}, {2, 6}, {4, 6, 6}} {
				all = append(all, twoLeaders(same, a, b))
			}
		}
	}
	return all
}

type piece struct {
	who, index, size int
}

func piecesOf(l [2]leader) []piece {
	var all []piece
	for who := range l {
		for index := range len(l[who].list) + 1 {
			for size := range len(l[who].list) - index + 1 {
				all = append(all, piece{who, index, size})
			}
		}
	}
	return all
}

// hand hands a follower a piece, and holds its log against that leader's.
func hand(t *testing.T, f *Log, l [2]leader, c piece) bool {
	t.Helper()
	from := l[c.who]
	last, _, ok := f.Put(uint64(c.index), from.term(uint64(c.index)), from.list[c.index:c.index+c.size])
	if !ok {
		return false
	}
	if last != uint64(c.index+c.size) {
		t.Fatalf("%v of %s: last %d", c, short(from.list), last)
	}
	base := f.Base().Index
	if last > base && !alike(f.Slice(base+1, int(last-base)), from.list[base:last]) {
		t.Fatalf("behind %v of %s the follower has %s", c, short(from.list), short(f.Slice(base+1, 99)))
	}
	if end, _ := f.Last(); end < last && last > base {
		t.Fatalf("behind %v of %s the follower ends at %d", c, short(from.list), end)
	}
	return true
}

func TestPiecesOfTwoLeaders(t *testing.T) { // P20.7, W7: each three, in each order
	for _, l := range pairsOfLeaders() {
		if len(l[0].list)+len(l[1].list) > 7 {
			continue
		}
		all := piecesOf(l)
		empty, _ := New(api.Base{}, nil)
		for _, x := range all {
			first := empty.Copy()
			hand(t, first, l, x)
			for _, y := range all {
				second := first.Copy()
				hand(t, second, l, y)
				for _, z := range all {
					hand(t, second.Copy(), l, z)
				}
			}
		}
	}
}

func TestManyPiecesOfTwoLeaders(t *testing.T) { // P20.7, W7: with a follower that compacts what both say
	random := rand.New(rand.NewSource(207))
	row := func(size int, term, step uint64) []uint64 {
		var terms []uint64
		for range random.Intn(size) {
			terms = append(terms, term)
			term += step * uint64(random.Intn(2))
		}
		return terms
	}
	for range 400 {
		l := twoLeaders(row(8, 1, 1), row(12, 10, 2), row(12, 11, 2))
		same := 0
		for same < len(l[0].list) && same < len(l[1].list) && l[0].list[same].Term == l[1].list[same].Term {
			same++
		}
		all := piecesOf(l)
		f, _ := New(api.Base{}, nil)
		for range 120 {
			took := hand(t, f, l, all[random.Intn(len(all))])
			if took && random.Intn(20) == 0 {
				f.Compact(uint64(random.Intn(same + 1))) // or not, where it says nothing there
			}
		}
	}
}

// tries hands a follower, time and again, what stands behind the place that
// was told to try, and tells how often.
func tries(t *testing.T, f *Log, l leader, index uint64) int {
	t.Helper()
	for n := 1; n <= 2*len(l.list)+9; n++ {
		if index > uint64(len(l.list)) {
			t.Fatalf("told to try %d of %s", index, short(l.list))
		}
		last, _, ok := f.Put(index, l.term(index), l.list[index:])
		if ok {
			return n
		}
		index = last
	}
	t.Fatalf("no end of tries of %s", short(l.list))
	return 0
}

func holdsTries(t *testing.T, f *Log, l leader, from int) {
	t.Helper()
	before := f.Copy()
	n := tries(t, f, l, uint64(from))
	base := f.Base().Index
	if n > len(l.list)+2 || !alike(f.Slice(base+1, len(l.list)-int(base)), l.list[base:]) {
		t.Fatalf("%s, handed what is behind %d of %s %d times, has %s", short(before.Slice(base+1, 99)), from, short(l.list), n, short(f.Slice(base+1, 99)))
	}
}

func TestAFollowerThatTries(t *testing.T) { // P20.7: from any place, with any pieces of both, has it all in time
	for _, l := range pairsOfLeaders() {
		if len(l[0].list)+len(l[1].list) > 7 {
			continue
		}
		all := piecesOf(l)
		empty, _ := New(api.Base{}, nil)
		for _, x := range all {
			for _, y := range all {
				f := empty.Copy()
				hand(t, f, l, x)
				hand(t, f, l, y)
				for who := range l {
					for from := range len(l[who].list) + 1 {
						holdsTries(t, f.Copy(), l[who], from)
					}
				}
			}
		}
	}
}

func TestAFollowerThatTriesBehindItsBase(t *testing.T) { // P20.7: what it compacted both leaders have
	l := twoLeaders([]uint64{1, 1, 2, 2}, []uint64{3, 3, 5}, []uint64{4, 6, 6, 6, 8})
	for who := range l {
		for size := 4; size <= len(l[who].list); size++ {
			for to := range uint64(5) {
				f, _ := New(api.Base{}, l[who].list[:size])
				if e := f.Compact(to); e != api.OK {
					t.Fatalf("Compact(%d): %d", to, e)
				}
				for by := range l {
					for from := range len(l[by].list) + 1 {
						holdsTries(t, f.Copy(), l[by], from)
					}
				}
			}
		}
	}
	for size := range uint64(300) {
		long := twoLeaders(nil, slices.Repeat([]uint64{1}, int(size)), slices.Repeat([]uint64{2}, int(size)))
		f, _ := New(api.Base{}, long[0].list)
		holdsTries(t, f, long[1], int(size))
	}
}

func TestALogBesideACompactedOne(t *testing.T) { // P20.8: and whatever is done to both goes on being the same
	random := rand.New(rand.NewSource(208))
	next := func(n int) uint64 { return uint64(random.Intn(n)) }
	for _, s := range logs(4) {
		end := s.base.Index + uint64(len(s.list))
		for to := s.base.Index; to <= end; to++ {
			whole, less := both(t, s.base, s.list), both(t, s.base, s.list)
			less.compact(to)
			beside(t, whole.fast, less.fast, to)
			for range 6 {
				ahead, term := whole.slow.last()
				at := to + next(int(ahead-to)+1)
				there, _ := whole.slow.term(at)
				list := mixed(of("new", at+1, max(there, 1)+next(2), max(term, 1)+2))
				if a, b := fmt.Sprint(whole.put(at, there, list)), fmt.Sprint(less.put(at, there, list)); a != b {
					t.Fatalf("%s, compacted to %d: %s, not %s", s.String(), to, b, a)
				}
				beside(t, whole.fast, less.fast, to)
				e := conf(ahead+next(3), term+9, 1, 2)
				if a, b := whole.append(e), less.append(e); a != b {
					t.Fatalf("%s, compacted to %d: %d, not %d", s.String(), to, b, a)
				}
				beside(t, whole.fast, less.fast, to)
			}
		}
	}
}

func beside(t *testing.T, whole, less *Log, to uint64) {
	t.Helper()
	a, aTerm := whole.Last()
	if b, bTerm := less.Last(); a != b || aTerm != bTerm {
		t.Fatalf("compacted to %d: last %d, not %d", to, b, a)
	}
	for _, at := range []uint64{to, to + 1, to + 2, to + 3, a - 1, a, a + 1, top} {
		if at < to {
			continue
		}
		x, xOk := whole.Term(at)
		y, yOk := less.Term(at)
		if x != y || xOk != yOk || !slices.Equal(whole.Members(at), less.Members(at)) {
			t.Fatalf("compacted to %d: at %d %d, %v, members %v, not %d, %v, %v", to, at, y, yOk, less.Members(at), x, xOk, whole.Members(at))
		}
		for most := range 5 {
			if at > to && !alike(whole.Slice(at, most), less.Slice(at, most)) {
				t.Fatalf("compacted to %d: the %d from %d on are %s", to, most, at, short(less.Slice(at, most)))
			}
		}
	}
}

// held is memory of a caller's: entries within a longer list, with members
// within longer ones, and texts that change with their bytes.
type held struct {
	entries []api.Entry
	members [][]int
	bytes   [][]byte
}

func (h *held) text(s string) string {
	b := []byte(s)
	h.bytes = append(h.bytes, b)
	return unsafe.String(&b[0], len(b))
}

func (h *held) some(list ...int) []int {
	long := slices.Concat([]int{-9}, list, []int{-8, -7})
	h.members = append(h.members, long)
	return long[1 : 1+len(list)]
}

func (h *held) entry(index, term uint64, kind int) api.Entry {
	return api.Entry{Index: index, Term: term, Kind: kind, Members: h.some(0, 1, int(index)), Cmd: api.Cmd{
		Key: h.text("key"), Value: h.text("value"), Want: api.Want{Key: h.text("want")},
		Op: api.Op{Row: h.text("row"), Col: h.text("col"), Value: h.text("cell"), Expect: h.text("expect")},
	}}
}

func (h *held) list(from uint64, terms ...uint64) []api.Entry {
	h.entries = make([]api.Entry, 1, len(terms)+3)
	for i, term := range terms {
		h.entries = append(h.entries, h.entry(from+uint64(i), term, 1+i%2))
	}
	return h.entries[1:]
}

// spoil changes all of that memory, up to the ends of its room.
func (h *held) spoil() {
	for _, b := range h.bytes {
		clear(b)
	}
	for _, m := range h.members {
		ruin(m)
	}
	for i := range h.entries[:cap(h.entries)] {
		h.entries[:cap(h.entries)][i] = conf(77, 77, 77)
	}
}

func ruin(list []int) {
	list = list[:cap(list)]
	for i := range list {
		list[i] = -77
	}
}

// plain says all that a log answers, as a text.
func plain(l *Log) string {
	b := l.Base()
	index, term := l.Last()
	text := fmt.Sprint(b, index, term)
	for _, e := range l.Slice(b.Index+1, 1<<20) {
		text += fmt.Sprintf("\n%q", fmt.Sprint(e))
	}
	for at := b.Index; at <= index+1; at++ {
		term, ok := l.Term(at)
		text += fmt.Sprint("\n", term, ok, l.Members(at))
	}
	return text
}

func TestWhatIsHandedInIsNotKept(t *testing.T) { // R5
	for name, do := range map[string]func(h *held) *Log{
		"New": func(h *held) *Log {
			l, _ := New(api.Base{Index: 4, Term: 2, Members: h.some(0, 1)}, h.list(5, 2, 3, 3))
			return l
		},
		"Append": func(h *held) *Log {
			l, _ := New(api.Base{}, nil)
			l.Append(h.entry(1, 1, api.EntConf))
			l.Append(h.entry(2, 1, api.EntCmd))
			return l
		},
		"Put behind": func(h *held) *Log {
			l, _ := New(api.Base{}, of("", 1, 1, 1, 2))
			l.Put(3, 2, h.list(4, 2, 2, 3))
			return l
		},
		"Put within": func(h *held) *Log {
			l, _ := New(api.Base{}, of("", 1, 1, 1, 2))
			l.Put(1, 1, h.list(2, 1, 3, 3))
			return l
		},
		"Restore": func(h *held) *Log {
			l, _ := New(api.Base{}, of("", 1, 1, 1, 2))
			l.Restore(api.Base{Index: 2, Term: 1, Members: h.some(3, 4)})
			return l
		},
		"Restore of all": func(h *held) *Log {
			l, _ := New(api.Base{}, of("", 1, 1, 1, 2))
			l.Restore(api.Base{Index: 9, Term: 4, Members: h.some(3, 4)})
			return l
		},
	} {
		var h held
		l := do(&h)
		was := plain(l)
		h.spoil()
		if now := plain(l); now != was {
			t.Errorf("%s: %s\nis now %s", name, was, now)
		}
	}
}

func TestWhatIsHandedInIsNotChanged(t *testing.T) { // R5: nor the room behind it
	var h held
	b := api.Base{Index: 4, Term: 2, Members: h.some(0, 1)}
	list := h.list(5, 2, 3, 3)
	image := func() string {
		return fmt.Sprintf("%v %q %v", h.members, h.bytes, h.entries[:cap(h.entries)])
	}
	was := image()
	l, _ := New(b, list)
	l.Put(5, 2, list[1:])
	l.Put(3, 1, append(of("", 4, 2), list...))
	l.Put(4, 2, list[:1])
	l.Put(4, 2, list[:0])
	l.Append(api.Entry{Index: 8, Term: 3})
	l.Append(list[0])
	l.Put(7, 3, nil)
	l.Compact(6)
	l.Restore(b)
	l.Restore(api.Base{Index: 7, Term: 3, Members: b.Members})
	l.Copy().Append(api.Entry{Index: 9, Term: 3})
	other, _ := New(b, list[:1])
	other.Append(api.Entry{Index: 6, Term: 9})
	other.Put(4, 2, list)
	other.Put(5, 2, of("", 6, 8, 8, 8, 8))
	for at := range uint64(9) {
		ruin(l.Members(at))
		ruin(other.Members(at))
		change(other.Slice(at, 9))
	}
	if now := image(); now != was {
		t.Errorf("%s\nis now %s", was, now)
	}
}

// change changes entries, up to the end of their room, and their members.
func change(list []api.Entry) {
	list = list[:cap(list)]
	for i := range list {
		ruin(list[i].Members)
		list[i] = conf(88, 88, 88)
	}
}

func TestWhatIsAnsweredIsNew(t *testing.T) { // R5
	var h held
	l, _ := New(api.Base{Index: 4, Term: 2, Members: []int{0, 1, 2}}, append(h.list(5, 2, 3, 3), conf(8, 4, 1, 3)))
	for range 3 {
		was := plain(l)
		for at := range uint64(10) {
			ruin(l.Base().Members)
			ruin(l.Members(at))
			for most := range 6 {
				change(l.Slice(at, most))
				_ = append(l.Slice(at, most), conf(99, 99, 99))
			}
		}
		one, other := l.Slice(5, 9), l.Slice(5, 9)
		change(one)
		if len(other) > 0 && other[0].Index != 5 {
			t.Errorf("two answers share: %v", other)
		}
		if now := plain(l); now != was {
			t.Errorf("%s\nis now %s", was, now)
		}
		l.Append(api.Entry{Index: 9, Term: 4, Kind: api.EntConf, Members: []int{2, 3}})
	}
	l.Compact(8)
	was := plain(l)
	ruin(l.Base().Members)
	ruin(l.Members(8))
	ruin(l.Members(9))
	if now := plain(l); now != was {
		t.Errorf("compacted: %s\nis now %s", was, now)
	}
}

func TestTheMembersOfOneAnswerAreApart(t *testing.T) { // R5
	shared := []int{0, 1, 2}
	l, _ := New(api.Base{}, []api.Entry{conf(1, 1, shared...), {Index: 2, Term: 1, Kind: api.EntConf, Members: shared}, {Index: 3, Term: 1, Kind: api.EntConf, Members: shared}})
	list := l.Slice(1, 3)
	ruin(list[0].Members)
	if !slices.Equal(list[1].Members, []int{0, 1, 2}) || !slices.Equal(list[2].Members, []int{0, 1, 2}) {
		t.Errorf("%v", list)
	}
	ruin(list[1].Members)
	if !slices.Equal(list[2].Members, []int{0, 1, 2}) || !slices.Equal(l.Members(2), []int{0, 1, 2}) {
		t.Errorf("%v, %v", list, l.Members(2))
	}
}

func TestACopyGoesItsOwnWay(t *testing.T) { // P20.1
	ways := []func(*Log){
		func(l *Log) { l.Append(api.Entry{Index: 8, Term: 3, Kind: api.EntCmd}) },
		func(l *Log) { l.Append(conf(8, 4, 4)); l.Append(conf(9, 4, 3)) },
		func(l *Log) { l.Put(5, 2, of("there", 6, 4, 4)) },
		func(l *Log) { l.Put(4, 2, of("there", 5, 3)); l.Append(api.Entry{Index: 6, Term: 3}) },
		func(l *Log) { l.Put(7, 3, of("there", 8, 5, 5, 5, 5)) },
		func(l *Log) { l.Compact(6) },
		func(l *Log) { l.Compact(7); l.Append(conf(8, 3, 2)) },
		func(l *Log) { l.Restore(api.Base{Index: 5, Term: 2, Members: []int{4}}); l.Put(6, 3, of("", 7, 9)) },
		func(l *Log) { l.Restore(api.Base{Index: 20, Term: 7, Members: []int{4}}) },
	}
	fresh := func() *Log {
		l, _ := New(api.Base{Index: 4, Term: 2, Members: []int{0, 1}}, append(of("here", 5, 2, 3), conf(7, 3, 0, 1, 2)))
		return l
	}
	for i, one := range ways {
		alone := fresh()
		one(alone)
		for j, other := range ways {
			l := fresh()
			c := l.Copy()
			far := c.Copy()
			if plain(c) != plain(l) {
				t.Fatalf("a copy is %s", plain(c))
			}
			one(l)
			other(c)
			other(far)
			if plain(l) != plain(alone) || plain(c) != plain(far) {
				t.Errorf("%d and %d:\n%s\n%s", i, j, plain(l), plain(c))
			}
			wanted := fresh()
			other(wanted)
			if plain(c) != plain(wanted) {
				t.Errorf("the copy that went %d, beside %d:\n%s", j, i, plain(c))
			}
		}
	}
}

func TestLongLogs(t *testing.T) { // P20.2 to P20.5, R1
	const many = 50000
	l, _ := New(api.Base{}, nil)
	for i := range uint64(many) {
		var e api.Errno
		if i%2 == 0 {
			e = l.Append(of("", i+1, 1+i/1000)[0])
		} else if last, from, ok := l.Put(i, 1+(i-1)/1000, of("", i+1, 1+i/1000)); last != i+1 || from != i+1 || !ok {
			t.Fatalf("Put behind %d: %d, %d, %v", i, last, from, ok)
		}
		if term, ok := l.Term(i + 1); e != api.OK || term != 1+i/1000 || !ok {
			t.Fatalf("the entry %d: %d, %d, %v", i+1, e, term, ok)
		}
	}
	if index, term := l.Last(); index != many || term != many/1000 {
		t.Errorf("Last: %d, %d", index, term)
	}
	all := l.Slice(1, math.MaxInt)
	if len(all) != many || all[many-1].Index != many {
		t.Errorf("%d entries", len(all))
	}
	if last, from, ok := l.Put(0, 0, all); last != many || from != 0 || !ok {
		t.Errorf("Put of all: %d, %d, %v", last, from, ok)
	}
	if e := l.Compact(many - 3); e != api.OK || len(l.Slice(many-2, 9)) != 3 || len(l.Slice(many-3, 9)) != 0 {
		t.Errorf("Compact: %d", e)
	}
	if last, from, ok := l.Put(0, 0, all); last != many || from != 0 || !ok {
		t.Errorf("Put of all to the compacted one: %d, %d, %v", last, from, ok)
	}
}

func FuzzLogsDoAsTheWordsSay(f *testing.F) { // P20.1 to P20.8
	for seed := range int64(6) {
		data := make([]byte, 200)
		rand.New(rand.NewSource(seed)).Read(data)
		f.Add(data)
	}
	f.Fuzz(func(t *testing.T, data []byte) {
		next := func(n int) uint64 {
			if len(data) == 0 {
				return 0
			}
			b := data[0]
			data = data[1:]
			return uint64(b) % uint64(n)
		}
		number := func() uint64 {
			if next(4) != 0 || len(data) < 8 {
				return next(8)
			}
			n := binary.LittleEndian.Uint64(data)
			data = data[8:]
			return n
		}
		start := func() pair {
			b := api.Base{Index: number(), Term: number(), Members: []int{0, 1, 2}[:next(4)]}
			p, ok := tried(t, b, mixed(of("new", b.Index+1, b.Term+next(2), b.Term+1)[:next(3)]))
			if !ok {
				return both(t, bases[next(3)], nil)
			}
			return p
		}
		pairs := []pair{start(), start(), start()}
		for steps := 0; len(data) > 0 && steps < 60; steps++ {
			came := doSome(pairs[next(3)], pairs, next)
			pairs[next(3)] = came
			for _, p := range pairs {
				p.looks()
			}
		}
	})
}
