package quorum

import (
	"encoding/binary"
	"fmt"
	"iter"
	"math"
	"math/rand"
	"slices"
	"testing"

	"acreage/api"
)

const top = uint64(math.MaxUint64)

// noNodes are numbers that are no nodes; in some of them a node stands in the
// lower bits.
var noNodes = []int{-1, -2, -5, 5, 6, 7, 255, 256, 258, 1 << 16, 1 << 31, 1 << 32, 1<<32 + 1, -1 << 31, math.MaxInt, math.MinInt, math.MinInt + 1}

// wrong are lists that may not be members.
var wrong = [][]int{
	nil,
	{},
	{1, 0},
	{0, 2, 1},
	{4, 3, 2, 1, 0},
	{0, 0},
	{4, 4},
	{0, 1, 1},
	{0, 0, 1},
	{0, 1, 0},
	{-1},
	{-1, 0},
	{-1, 0, 1},
	{0, -1},
	{5},
	{0, 5},
	{0, 1, 2, 3, 5},
	{0, 1, 2, 3, 4, 5},
	{0, 1, 2, 3, 4, 4},
	{-1, 0, 1, 2, 3, 4},
	{0, 1, 2, 3, 4, 0, 1, 2, 3, 4},
	{math.MinInt, 0, math.MaxInt},
	{0, math.MaxInt},
	{1 << 32},
	{0, 1<<32 + 1},
	{0, 257},
}

// rows are all lists of so many numbers at most, out of those told; each is
// good till the next one comes.
func rows[T any](most int, of ...T) iter.Seq[[]T] {
	return func(yield func([]T) bool) {
		var from func(list []T) bool
		from = func(list []T) bool {
			if !yield(list) {
				return false
			}
			for _, n := range of {
				if len(list) < most && !from(append(list, n)) {
					return false
				}
			}
			return true
		}
		from(make([]T, 0, most))
	}
}

// groups are all lists of members that may be.
func groups() [][]int {
	var all [][]int
	for bits := 1; bits < 32; bits++ {
		all = append(all, picked([]int{0, 1, 2, 3, 4}, bits))
	}
	return all
}

// picked has those of a list at whose places a bit is set.
func picked(list []int, bits int) []int {
	var some []int
	for i, n := range list {
		if bits>>i&1 == 1 {
			some = append(some, n)
		}
	}
	return some
}

// parts are all lists of exactly so many of a list.
func parts(list []int, size int) [][]int {
	var all [][]int
	for bits := range 1 << len(list) {
		if some := picked(list, bits); len(some) == size {
			all = append(all, some)
		}
	}
	return all
}

func slowHas(list []int, node int) bool {
	for _, n := range list {
		if n == node {
			return true
		}
	}
	return false
}

func slowMost(list []int) int {
	most := 1
	for 2*most <= len(list) {
		most++
	}
	return most
}

func slowCheck(list []int) bool {
	ahead := -1
	for _, n := range list {
		if n <= ahead || n > 4 {
			return false
		}
		ahead = n
	}
	return ahead >= 0
}

func slowWins(members, yes []int) bool {
	votes := 0
	for _, n := range members {
		if slowHas(yes, n) {
			votes++
		}
	}
	return slowCheck(members) && votes >= slowMost(members)
}

func slowCommit(members []int, match []uint64) uint64 {
	if !slowCheck(members) {
		return 0
	}
	greatest := uint64(0)
	for i := range members {
		reached := 0
		for j := range members {
			if i < len(match) && j < len(match) && match[j] >= match[i] {
				reached++
			}
		}
		if reached >= slowMost(members) {
			greatest = max(greatest, match[i])
		}
	}
	return greatest
}

// slowChange goes through all nodes, by way of what the words ask of in and
// out.
func slowChange(members []int, in, out int) ([]int, api.Errno) {
	comes := out == -1 && in >= 0 && in <= 4 && !slowHas(members, in)
	goes := in == -1 && out >= 0 && out <= 4 && slowHas(members, out) && len(members) > 1
	if !slowCheck(members) || !comes && !goes {
		return nil, 2
	}
	var now []int
	for n := range 5 {
		if n != out && (n == in || slowHas(members, n)) {
			now = append(now, n)
		}
	}
	return now, 0
}

func share(a, b []int) bool {
	for _, n := range a {
		if slowHas(b, n) {
			return true
		}
	}
	return false
}

// slowMeet tries each majority with each.
func slowMeet(a, b []int) bool {
	if !slowCheck(a) || !slowCheck(b) {
		return false
	}
	for _, x := range parts(a, slowMost(a)) {
		for _, y := range parts(b, slowMost(b)) {
			if !share(x, y) {
				return false
			}
		}
	}
	return true
}

func checks(t *testing.T, list []int) bool {
	t.Helper()
	want := api.Errno(2)
	if slowCheck(list) {
		want = 0
	}
	if e := Check(list); e != want {
		t.Fatalf("Check(%v) = %d, not %d", list, e, want)
	}
	if n := Most(list); n != slowMost(list) {
		t.Fatalf("Most(%v) = %d, not %d", list, n, slowMost(list))
	}
	return want == 0
}

func has(t *testing.T, list []int, node int) {
	t.Helper()
	if got, want := Has(list, node), slowHas(list, node); got != want {
		t.Fatalf("Has(%v, %d) = %v", list, node, got)
	}
}

func wins(t *testing.T, members, yes []int) bool {
	t.Helper()
	got, want := Wins(members, yes), slowWins(members, yes)
	if got != want {
		t.Fatalf("Wins(%v, %v) = %v", members, yes, got)
	}
	return got
}

func commits(t *testing.T, members []int, match []uint64) uint64 {
	t.Helper()
	got, want := Commit(members, match), slowCommit(members, match)
	if got != want {
		t.Fatalf("Commit(%v, %v) = %d, not %d", members, match, got, want)
	}
	return got
}

func changes(t *testing.T, members []int, in, out int) ([]int, api.Errno) {
	t.Helper()
	got, e := Change(members, in, out)
	want, wantE := slowChange(members, in, out)
	if !slices.Equal(got, want) || e != wantE {
		t.Fatalf("Change(%v, %d, %d) = %v, %d, not %v, %d", members, in, out, got, e, want, wantE)
	}
	return got, e
}

func meets(t *testing.T, a, b []int) bool {
	t.Helper()
	got, want := Meet(a, b), slowMeet(a, b)
	if got != want {
		t.Fatalf("Meet(%v, %v) = %v", a, b, got)
	}
	return got
}

func TestTheChaptersExamples(t *testing.T) { // P19.1 to P19.4
	for _, c := range []struct{ got, want any }{
		{Check([]int{0, 1, 2}), api.OK},
		{Check(nil), api.ErrArg},
		{Check([]int{1, 0}), api.ErrArg},
		{Check([]int{0, 0}), api.ErrArg},
		{Check([]int{5}), api.ErrArg},
		{Check([]int{-1}), api.ErrArg},
		{Most([]int{0, 1, 2}), 2},
		{Most([]int{0, 1}), 2},
		{Most([]int{0}), 1},
		{Most(nil), 1},
		{Wins([]int{0, 1, 2}, []int{2, 0}), true},
		{Wins([]int{0, 1, 2}, []int{2, 2}), false},
		{Wins([]int{0, 1, 2}, []int{3, 4}), false},
		{Wins([]int{0}, []int{0}), true},
		{Commit([]int{0, 1, 2}, []uint64{5, 3, 9}), uint64(5)},
		{Commit([]int{0, 1}, []uint64{5, 3}), uint64(3)},
		{Commit([]int{0, 1, 2}, []uint64{7}), uint64(0)},
		{Commit(nil, []uint64{7}), uint64(0)},
		{Meet([]int{0, 1, 2}, []int{0, 1, 2, 3}), true},
		{Meet([]int{0, 1}, []int{2, 3}), false},
		{Meet([]int{0, 1, 2}, []int{2, 3, 4}), false},
		{Meet([]int{0}, []int{0, 1}), true},
	} {
		if c.got != c.want {
			t.Errorf("%v, not %v", c.got, c.want)
		}
	}
	for _, c := range []struct {
		members []int
		in, out int
		want    string
	}{
		{[]int{0, 1}, 2, -1, "[0 1 2] 0"},
		{[]int{0, 1, 2}, -1, 1, "[0 2] 0"},
		{[]int{0}, -1, 0, "[] 2"},
		{[]int{0}, 0, -1, "[] 2"},
		{[]int{0, 1}, 2, 1, "[] 2"},
		{[]int{0}, -1, -1, "[] 2"},
	} {
		l, e := Change(c.members, c.in, c.out)
		if got := fmt.Sprintf("%v %d", l, int(e)); got != c.want {
			t.Errorf("Change(%v, %d, %d) = %s", c.members, c.in, c.out, got)
		}
	}
}

func TestEachListThatMayBe(t *testing.T) { // P19.1: all 31, and no other one
	all := groups()
	if len(all) != 31 {
		t.Fatalf("%d lists", len(all))
	}
	for _, l := range all {
		if !checks(t, l) {
			t.Errorf("%v may not be", l)
		}
	}
	good := 0
	for l := range rows(6, -1, 0, 1, 2, 3, 4, 5) {
		if checks(t, l) {
			good++
		}
		for node := -1; node <= 5 && len(l) < 5; node++ {
			has(t, l, node)
		}
	}
	if good != 31 {
		t.Errorf("%d lists may be", good)
	}
}

func TestListsThatMayNotBe(t *testing.T) { // P19.1 to P19.4: ErrArg, 0, false, none
	everyone, most := []int{0, 1, 2, 3, 4, 5, -1, math.MinInt, math.MaxInt}, []uint64{9, 9, 9, 9, 9, 9, 9, 9, 9, 9, 9}
	for _, l := range wrong {
		if checks(t, l) || wins(t, l, everyone) || wins(t, l, l) || wins(t, l, nil) || commits(t, l, most) != 0 || commits(t, l, nil) != 0 {
			t.Errorf("%v may be", l)
		}
		for in := -2; in <= 6; in++ {
			for out := -2; out <= 6; out++ {
				if now, e := changes(t, l, in, out); now != nil || e != api.ErrArg {
					t.Errorf("Change(%v, %d, %d) = %v, %d", l, in, out, now, e)
				}
			}
		}
		for _, g := range slices.Concat(groups(), wrong) {
			if meets(t, l, g) || meets(t, g, l) {
				t.Errorf("%v and %v meet", l, g)
			}
		}
	}
}

func TestListsWithANumberThatIsNoNode(t *testing.T) { // P19.1 to P19.4
	for _, g := range groups() {
		for _, n := range noNodes {
			for at := range len(g) + 1 {
				with := slices.Insert(slices.Clone(g), at, n)
				instead := slices.Clone(g)
				instead[min(at, len(g)-1)] = n
				for _, l := range [][]int{with, instead} {
					if checks(t, l) || wins(t, l, slices.Concat(l, g)) || commits(t, l, []uint64{1, 1, 1, 1, 1, 1}) != 0 || meets(t, l, g) || meets(t, g, l) || meets(t, l, l) {
						t.Errorf("%v may be", l)
					}
					changes(t, l, n, -1)
					changes(t, l, -1, n)
					changes(t, l, 4, -1)
					changes(t, l, -1, l[0])
					has(t, l, n)
					has(t, l, l[0])
				}
			}
			has(t, g, n)
		}
	}
}

func TestHasOfAnyList(t *testing.T) { // P19.1: members that may not be too
	all := append(groups(), wrong...)
	for _, l := range append(all, noNodes) {
		for _, n := range slices.Concat(l, noNodes, []int{0, 1, 2, 3, 4}) {
			has(t, l, n)
		}
		checks(t, l)
	}
}

func TestMostOfLongLists(t *testing.T) { // P19.1: of any list; R1
	for size := range 300 {
		long := make([]int, size)
		if n := Most(long); n != slowMost(long) {
			t.Errorf("Most of %d: %d", size, n)
		}
		if checks(t, long) != (size == 1) {
			t.Errorf("a list of %d times 0", size)
		}
		for i := range long {
			long[i] = i
		}
		if checks(t, long) != (size >= 1 && size <= 5) {
			t.Errorf("a list of %d rising", size)
		}
	}
	for _, size := range []int{1<<16 - 1, 1 << 16, 1 << 20} {
		long := make([]int, size)
		for i := range long {
			long[i] = i % 5
		}
		if Check(long) != api.ErrArg || Most(long) != size/2+1 || !Has(long, 4) || Has(long, 5) {
			t.Errorf("a list of %d", size)
		}
		if Wins(long, long) || !Wins([]int{0, 1, 2, 3, 4}, long) || Commit(long, []uint64{1}) != 0 || Meet(long, []int{0}) || Meet([]int{0}, long) {
			t.Errorf("a list of %d may be", size)
		}
		if l, e := Change(long, 4, -1); l != nil || e != api.ErrArg {
			t.Errorf("Change of %d: %v, %d", size, l, e)
		}
		if Commit([]int{0}, make([]uint64, size)) != 0 {
			t.Errorf("Commit of %d", size)
		}
	}
}

func TestWhoSaysYes(t *testing.T) { // P19.2: each group, each list of yes
	for _, g := range groups() {
		for yes := range rows(5, -1, 0, 1, 2, 3, 4, 5) {
			wins(t, g, yes)
		}
	}
}

func TestExactlyMost(t *testing.T) { // P19.2: and one fewer, however often each says so
	for _, g := range groups() {
		for size := range len(g) + 1 {
			for _, yes := range parts(g, size) {
				want := size >= Most(g)
				often := slices.Concat(yes, yes, noNodes, yes)
				slices.Reverse(often)
				others := slices.Clone(yes)
				for n := range 5 {
					if !slices.Contains(g, n) {
						others = append(others, n, n, n)
					}
				}
				for _, l := range [][]int{yes, often, others, slices.Concat(noNodes, others)} {
					if wins(t, g, l) != want {
						t.Errorf("%d of %v: Wins of %v is %v", size, g, l, !want)
					}
				}
			}
		}
	}
}

func TestYesOfNumbersThatAreNoNodes(t *testing.T) { // P19.2
	for _, g := range groups() {
		if wins(t, g, noNodes) || wins(t, g, nil) || wins(t, g, []int{}) {
			t.Errorf("%v wins", g)
		}
		for _, n := range noNodes {
			if wins(t, g, []int{n}) || wins(t, g, slices.Repeat([]int{n}, 9)) {
				t.Errorf("%v wins by %d", g, n)
			}
			if !wins(t, g, slices.Concat([]int{n}, g)) || !wins(t, g, slices.Concat(g, []int{n})) {
				t.Errorf("%v does not win beside %d", g, n)
			}
		}
	}
}

func TestWhatIsCommitted(t *testing.T) { // P19.2: each group, each few matches
	for _, g := range groups() {
		for match := range rows(6, 0, 1, 2, top) {
			commits(t, g, match)
		}
	}
}

func TestWhatExactlyMostHave(t *testing.T) { // P19.2: by places, not by nodes
	for _, g := range groups() {
		for _, high := range []uint64{1, 2, 1 << 40, 1 << 63, top} {
			for bits := range 1 << len(g) {
				match, reached := make([]uint64, len(g)), 0
				for i := range match {
					match[i] = high - 1
					if bits>>i&1 == 1 {
						match[i] = high
						reached++
					}
				}
				want := high
				if reached < Most(g) {
					want = high - 1
				}
				if got := commits(t, g, match); got != want {
					t.Errorf("%d of %v have %d: %d", reached, g, high, got)
				}
			}
		}
	}
}

func TestFewerAndMoreMatches(t *testing.T) { // P19.2
	for _, g := range groups() {
		for size := range 12 {
			match := slices.Repeat([]uint64{top}, size)
			want := uint64(0)
			if size >= Most(g) {
				want = top
			}
			if got := commits(t, g, match); got != want {
				t.Errorf("%d matches of %v: %d", size, g, got)
			}
			if beyond := slices.Concat(make([]uint64, len(g)), match); commits(t, g, beyond) != 0 {
				t.Errorf("%v commits what %v has beyond it", g, beyond)
			}
			few := slices.Concat(match[:min(size, len(g))], []uint64{1, 2, 3, 4, 5, 6})
			commits(t, g, few)
		}
		if commits(t, g, nil) != 0 || commits(t, g, []uint64{}) != 0 {
			t.Errorf("%v commits something of nothing", g)
		}
	}
}

func TestManyMatches(t *testing.T) { // P19.2
	random := rand.New(rand.NewSource(19))
	for range 20000 {
		g := groups()[random.Intn(31)]
		match := make([]uint64, random.Intn(8))
		for i := range match {
			match[i] = random.Uint64() >> random.Intn(64)
		}
		commits(t, g, match)
	}
}

func TestEachChange(t *testing.T) { // P19.3, R7
	for _, g := range groups() {
		good := 0
		for in := -3; in <= 7; in++ {
			for out := -3; out <= 7; out++ {
				now, e := changes(t, g, in, out)
				if e != api.OK {
					continue
				}
				good++
				if Check(now) != api.OK || len(now) != len(g)+1 && len(now) != len(g)-1 {
					t.Errorf("Change(%v, %d, %d) = %v", g, in, out, now)
				}
				if back, e := changes(t, now, out, in); e != api.OK || !slices.Equal(back, g) {
					t.Errorf("Change(%v, %d, %d) = %v, %d, not %v", now, out, in, back, e, g)
				}
			}
		}
		want := 5
		if len(g) == 1 {
			want = 4
		}
		if good != want {
			t.Errorf("%v may be changed in %d ways, not %d", g, good, want)
		}
	}
}

func TestChangesThatMayNotBe(t *testing.T) { // P19.3
	for _, g := range groups() {
		for _, n := range noNodes {
			for m := -1; m <= 5; m++ {
				for _, c := range [][2]int{{n, m}, {m, n}} {
					if n == -1 && m >= 0 && m <= 4 {
						changes(t, g, c[0], c[1])
						continue
					}
					if now, e := changes(t, g, c[0], c[1]); now != nil || e != api.ErrArg {
						t.Errorf("Change(%v, %v) = %v, %d", g, c, now, e)
					}
				}
			}
			for _, m := range noNodes {
				if now, e := changes(t, g, n, m); now != nil || e != api.ErrArg {
					t.Errorf("Change(%v, %d, %d) = %v, %d", g, n, m, now, e)
				}
			}
		}
		for in := range 5 {
			for out := range 5 {
				if now, e := changes(t, g, in, out); now != nil || e != api.ErrArg {
					t.Errorf("Change(%v, %d, %d) = %v, %d", g, in, out, now, e)
				}
			}
		}
	}
}

func TestTheLastMemberDoesNotGo(t *testing.T) { // P19.3
	for n := range 5 {
		if now, e := Change([]int{n}, -1, n); now != nil || e != api.ErrArg {
			t.Errorf("%d goes: %v, %d", n, now, e)
		}
	}
	all := []int{0, 1, 2, 3, 4}
	for n := range 5 {
		if now, e := Change(all, n, -1); now != nil || e != api.ErrArg {
			t.Errorf("%d comes to all: %v, %d", n, now, e)
		}
	}
	for n := range 4 {
		now, e := Change(all[n:], -1, n)
		if e != api.OK || !slices.Equal(now, all[n+1:]) {
			t.Errorf("%d goes: %v, %d", n, now, e)
		}
	}
}

func TestEachPairOfGroups(t *testing.T) { // P19.4
	meeting := 0
	for _, a := range groups() {
		for _, b := range groups() {
			if meets(t, a, b) {
				meeting++
			}
			if Meet(a, b) != Meet(b, a) {
				t.Errorf("%v and %v", a, b)
			}
		}
	}
	if meeting == 0 || meeting == 31*31 {
		t.Errorf("%d pairs meet", meeting)
	}
}

// winners are all lists of nodes that win in a group, others among them.
func winners(members []int) [][]int {
	var all [][]int
	for bits := range 32 {
		if yes := picked([]int{0, 1, 2, 3, 4}, bits); Wins(members, yes) {
			all = append(all, yes)
		}
	}
	return all
}

// nextOf are a group, and all that come of it by one Change.
func nextOf(members []int) [][]int {
	all := [][]int{members}
	for n := range 5 {
		for _, c := range [][2]int{{n, -1}, {-1, n}} {
			if now, e := Change(members, c[0], c[1]); e == api.OK {
				all = append(all, now)
			}
		}
	}
	return all
}

func TestMajoritiesHaveANodeInCommon(t *testing.T) { // P19.5, W7: of one group, and across each Change
	for _, a := range groups() {
		for _, b := range nextOf(a) {
			if !meets(t, a, b) || !meets(t, b, a) {
				t.Errorf("%v and %v do not meet", a, b)
			}
			for _, x := range winners(a) {
				for _, y := range winners(b) {
					if !share(x, y) {
						t.Errorf("%v of %v and %v of %v", x, a, y, b)
					}
				}
			}
		}
	}
}

// hasIt tells whether one of yes is a member that has reached an index.
func hasIt(members, yes []int, match []uint64, index uint64) bool {
	for i, n := range members {
		if i < len(match) && match[i] >= index && slices.Contains(yes, n) {
			return true
		}
	}
	return false
}

func TestWhoWinsHasANodeOfWhatIsCommitted(t *testing.T) { // P19.5, W7: across each Change too
	for _, g := range groups() {
		next := nextOf(g)
		for match := range rows[uint64](len(g), 0, 1, 2) {
			index := Commit(g, match)
			if index == 0 {
				continue
			}
			for _, b := range next {
				for _, yes := range winners(b) {
					if !hasIt(g, yes, match, index) {
						t.Fatalf("%d is committed by %v, %v; %v of %v win without", index, g, match, yes, b)
					}
				}
			}
		}
	}
}

func TestCommitNeverFalls(t *testing.T) { // P19.5, W7: when a match rises, or one more is told
	for _, g := range groups() {
		for match := range rows[uint64](5, 0, 1, 2, 3) {
			was := Commit(g, match)
			for i := range match {
				risen := slices.Clone(match)
				for range 3 {
					risen[i]++
					now := commits(t, g, risen)
					if now < was || now > was+uint64(3) {
						t.Fatalf("of %v %v commits %d, %v %d", g, match, was, risen, now)
					}
				}
			}
			if now := commits(t, g, append(slices.Clone(match), 2)); now < was {
				t.Fatalf("of %v %v commits %d, with 2 behind it %d", g, match, was, now)
			}
		}
	}
}

func TestCommitRisesWithTheMatches(t *testing.T) { // P19.2, P19.5: one by one, to the end of all
	random := rand.New(rand.NewSource(5))
	for _, g := range groups() {
		match, was := make([]uint64, len(g)), uint64(0)
		for range 500 {
			i := random.Intn(len(g))
			more := min(random.Uint64()>>random.Intn(64), top-match[i])
			match[i] += more
			now := commits(t, g, match)
			if now < was {
				t.Fatalf("of %v %v commits %d, was %d", g, match, now, was)
			}
			was = now
		}
		for i := range match {
			match[i] = top
			now := commits(t, g, match)
			if now < was || now != top && i+1 >= Most(g) {
				t.Fatalf("of %v %v commits %d, was %d", g, match, now, was)
			}
			was = now
		}
	}
}

// within is a list as a piece of a longer one, with other things ahead of it
// and in the room behind its end.
func within[T any](list []T, other T) (piece, whole []T) {
	whole = slices.Concat([]T{other, other}, list, slices.Repeat([]T{other}, 7))
	return whole[2 : 2+len(list)], whole
}

func TestNothingThatIsHandedInIsChanged(t *testing.T) { // R5: nor the room behind its end
	for _, g := range append(groups(), wrong...) {
		for yes := range rows(3, -1, 0, 2, 4, 5) {
			members, all := within(g, 3)
			said, allSaid := within(yes, 1)
			match, allMatch := within([]uint64{7, 9, 8, top, 0, 3}[:2*len(yes)], 4)
			was, wasSaid, wasMatch := slices.Clone(all), slices.Clone(allSaid), slices.Clone(allMatch)
			Check(members)
			Has(members, 3)
			Most(members)
			wins(t, members, said)
			commits(t, members, match)
			meets(t, members, said)
			meets(t, said, members)
			for n := -1; n < 5; n++ {
				changes(t, members, n, -1)
				changes(t, members, -1, n)
			}
			if !slices.Equal(all, was) || !slices.Equal(allSaid, wasSaid) || !slices.Equal(allMatch, wasMatch) {
				t.Fatalf("%v, %v: now %v, %v, %v", g, yes, all, allSaid, allMatch)
			}
		}
	}
}

func TestWhatIsAnsweredIsNewMemory(t *testing.T) { // R5
	for _, g := range groups() {
		for n := range 5 {
			for _, c := range [][2]int{{n, -1}, {-1, n}} {
				members, all := within(g, 3)
				was := slices.Clone(all)
				now, e := Change(members, c[0], c[1])
				if e != api.OK {
					continue
				}
				want := slices.Clone(now)
				again, _ := Change(members, c[0], c[1])
				for i := range now[:cap(now)] {
					now[:cap(now)][i] = -9
				}
				if !slices.Equal(all, was) || !slices.Equal(again, want) {
					t.Fatalf("Change(%v, %v): %v, %v behind a change of its answer", g, c, all, again)
				}
				for i := range all {
					all[i] = -9
				}
				if !slices.Equal(again, want) {
					t.Fatalf("Change(%v, %v): %v behind a change of what was handed in", g, c, again)
				}
				if later, e := changes(t, g, c[0], c[1]); e != api.OK || !slices.Equal(later, want) {
					t.Fatalf("Change(%v, %v): later %v, %d", g, c, later, e)
				}
			}
		}
	}
}

func TestTheSameTwice(t *testing.T) { // R6: whatever was asked between
	type answers struct {
		check  api.Errno
		wins   bool
		commit uint64
		change string
		meet   bool
	}
	ask := func(g, yes []int) answers {
		l, e := Change(g, yes[0], -1)
		return answers{Check(g), Wins(g, yes), Commit(g, []uint64{3, 1, 2}), fmt.Sprint(l, int(e)), Meet(g, yes)}
	}
	all := append(groups(), wrong[2:]...)
	first := map[[2]int]answers{}
	for i, g := range all {
		for j, yes := range all {
			first[[2]int{i, j}] = ask(g, yes)
		}
	}
	for at, want := range first {
		if got := ask(all[at[0]], all[at[1]]); got != want {
			t.Fatalf("%v, %v: %+v, then %+v", all[at[0]], all[at[1]], want, got)
		}
	}
}

func FuzzMajoritiesAreAsTheWordsSay(f *testing.F) { // P19.1 to P19.5
	f.Add([]byte{0, 1, 2}, []byte{2, 0}, []byte{5, 3, 9}, 3, -1)
	f.Add([]byte{0, 1, 2, 3}, []byte{0, 3, 4}, []byte{0xff, 0xff, 1, 1, 7}, -1, 0)
	f.Add([]byte{1, 0}, []byte{0xff}, []byte{}, 2, 1)
	f.Fuzz(func(t *testing.T, members, yes, match []byte, in, out int) {
		numbers := func(b []byte) []int {
			var l []int
			for _, n := range b[:min(len(b), 40)] {
				l = append(l, int(int8(n)))
			}
			return l
		}
		var reached []uint64
		for rest := match[:min(len(match), 60)]; len(rest) > 0; {
			n, size := binary.Uvarint(rest)
			if size <= 0 {
				n, size = top, 1
			}
			reached, rest = append(reached, n), rest[size:]
		}
		a, b := numbers(members), numbers(yes)
		checks(t, a)
		has(t, a, in)
		wins(t, a, b)
		was := commits(t, a, reached)
		meets(t, a, b)
		if now, e := changes(t, a, in, out); e == api.OK && !meets(t, a, now) {
			t.Fatalf("%v and %v do not meet", a, now)
		}
		for i, n := range reached {
			reached[i] = max(n, n+3)
			if now := commits(t, a, reached); now < was {
				t.Fatalf("of %v %v commits %d, was %d", a, reached, now, was)
			}
			was = commits(t, a, reached)
		}
	})
}
