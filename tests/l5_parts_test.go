package tests

import (
	"math"
	"math/rand"
	"slices"
	"testing"

	"loop.example/g00694/impl"
)

// An oneness is parts of another make than the program's: a table that tells
// of each two numbers whether they are one, closed by Warshall's triple loop.
type oneness [][]bool

func onenessOf(l []int) oneness {
	o := make(oneness, len(l))
	for k := range o {
		o[k] = make([]bool, len(l))
		o[k][k] = true
	}
	for k, other := range l {
		o.tie(k, other)
	}
	return o.close()
}

func (o oneness) tie(a, b int) {
	o[a][b], o[b][a] = true, true
}

func (o oneness) close() oneness {
	for through := range o {
		for a := range o {
			for b := range o {
				if o[a][through] && o[through][b] {
					o[a][b] = true
				}
			}
		}
	}
	return o
}

// told writes the table as the program must tell its parts.
func (o oneness) told() []int {
	l := make([]int, len(o))
	for k := range o {
		l[k] = slices.Index(o[k], true)
	}
	return l
}

func (o oneness) with(k int) []int {
	var all []int
	for other, one := range o[k] {
		if one {
			all = append(all, other)
		}
	}
	return all
}

func randomParents(r *rand.Rand, length int) []int {
	l := make([]int, length)
	for k := range l {
		switch r.Intn(4) {
		case 0:
			l[k] = k
		case 1:
			l[k] = max(0, k-1)
		default:
			l[k] = r.Intn(k + 1)
		}
	}
	return l
}

func randomParts(r *rand.Rand, length int) []int {
	return onenessOf(randomParents(r, length)).told()
}

// aloneEach is a list in which each number is its own root; longWay one in
// which each number's parent is the one ahead.
func aloneEach(length int) []int {
	l := make([]int, length)
	for k := range l {
		l[k] = k
	}
	return l
}

func longWay(length int) []int {
	l := make([]int, length)
	for k := range l {
		l[k] = max(0, k-1)
	}
	return l
}

func badParents() map[string][]int {
	return map[string][]int{
		"a first parent above 0":    {1, 1},
		"a first parent below 0":    {-1},
		"a parent one too great":    {0, 2, 2},
		"two that are each other's": {0, 2, 1},
		"a last parent behind all":  {0, 1, 3},
		"a parent below 0":          {0, 1, -1},
		"the least number":          {0, math.MinInt},
		"the greatest number":       {0, math.MaxInt},
		"a fault in the midst":      {0, 0, 5, 0, 0, 0},
		"one more than MaxPoints":   aloneEach(impl.MaxPoints + 1),
		"a way of one more number":  longWay(impl.MaxPoints + 1),
		"all of one, one too many":  make([]int, impl.MaxPoints+1),
		"many more than MaxPoints":  aloneEach(3 * impl.MaxPoints),
	}
}

// Good parents that are no parts: some number's own one is not itself.
func parentsThatAreNoParts() map[string][]int {
	return map[string][]int{
		"a way of two steps":   {0, 0, 1},
		"the same at the end":  {0, 1, 2, 3, 3, 4},
		"a way through all":    longWay(impl.MaxPoints),
		"one number off alone": {0, 0, 0, 1, 0, 0},
	}
}

func badParts() map[string][]int {
	all := badParents()
	for name, l := range parentsThatAreNoParts() {
		all[name] = l
	}
	return all
}

func expectList(t *testing.T, what string, got []int, ok bool, want ...int) {
	t.Helper()
	if !ok || !slices.Equal(got, want) {
		t.Errorf("%s: got %v, %v, want %v, true", what, got, ok, want)
	}
}

func expectNoList(t *testing.T, what string, got []int, ok bool) {
	t.Helper()
	if ok || len(got) != 0 {
		t.Errorf("%s: got %v, %v, want none, false", what, got, ok)
	}
}

func expectRoot(t *testing.T, l []int, k, want, wantSteps int) {
	t.Helper()
	if root, steps, ok := impl.FindRoot(l, k); root != want || steps != wantSteps || !ok {
		t.Errorf("FindRoot(%v, %d): got %d, %d, %v, want %d, %d, true", l, k, root, steps, ok, want, wantSteps)
	}
}

func expectNoRoot(t *testing.T, l []int, k int) {
	t.Helper()
	if root, steps, ok := impl.FindRoot(l, k); root != 0 || steps != 0 || ok {
		t.Errorf("FindRoot(%v, %d): got %d, %d, %v, want 0, 0, false", l, k, root, steps, ok)
	}
}

func expectUnion(t *testing.T, l []int, a, b int, want ...int) {
	t.Helper()
	for range 2 {
		got, ok := impl.UnionRoots(l, a, b)
		expectList(t, "UnionRoots", got, ok, want...)
		a, b = b, a
	}
}

func expectJoin(t *testing.T, l []int, a, b int, want ...int) {
	t.Helper()
	for range 2 {
		got, ok := impl.JoinParts(l, a, b)
		expectList(t, "JoinParts", got, ok, want...)
		a, b = b, a
	}
}

func expectMembers(t *testing.T, l []int, k int, want ...int) {
	t.Helper()
	got, ok := impl.MembersOf(l, k)
	expectList(t, "MembersOf", got, ok, want...)
}

func expectMeet(t *testing.T, a, b []int, want ...int) {
	t.Helper()
	for range 2 {
		got, ok := impl.MeetParts(a, b)
		expectList(t, "MeetParts", got, ok, want...)
		a, b = b, a
	}
}

func expectFiner(t *testing.T, a, b []int, want bool) {
	t.Helper()
	if is, ok := impl.IsFinerParts(a, b); is != want || !ok {
		t.Errorf("IsFinerParts(%v, %v): got %v, %v, want %v, true", a, b, is, ok, want)
	}
}

func expectNoPair(t *testing.T, what string, a, b []int) {
	t.Helper()
	got, ok := impl.MeetParts(a, b)
	expectNoList(t, "MeetParts, "+what, got, ok)
	if is, ok := impl.IsFinerParts(a, b); is || ok {
		t.Errorf("IsFinerParts, %s: got %v, %v, want false, false", what, is, ok)
	}
}

func expectCount(t *testing.T, l []int, want int) {
	t.Helper()
	if n, ok := impl.CountParts(l); n != want || !ok {
		t.Errorf("CountParts(%v): got %d, %v, want %d, true", l, n, ok, want)
	}
}

func TestMaxPoints(t *testing.T) {
	if impl.MaxPoints != 200 {
		t.Errorf("MaxPoints is %d, want 200", impl.MaxPoints)
	}
}

func TestGoodParentsAndGoodParts(t *testing.T) {
	for _, l := range [][]int{
		nil, {}, {0}, {0, 0}, {0, 1}, {0, 1, 1, 0, 1, 0}, make([]int, impl.MaxPoints), aloneEach(impl.MaxPoints),
	} {
		if !impl.GoodParents(l) || !impl.GoodParts(l) {
			t.Errorf("%v: want good parents and good parts", l)
		}
	}
	for name, l := range parentsThatAreNoParts() {
		if !impl.GoodParents(l) || impl.GoodParts(l) {
			t.Errorf("%s: want good parents that are no parts", name)
		}
	}
	for name, l := range badParents() {
		if impl.GoodParents(l) || impl.GoodParts(l) {
			t.Errorf("%s: want neither parents nor parts", name)
		}
	}
}

// Each list of up to four numbers from -1 to 4, held against the words.
func TestGoodnessOfAllShortLists(t *testing.T) {
	for length := range 5 {
		l := make([]int, length)
		for k := range l {
			l[k] = -1
		}
		for more := true; more; more = countUp(l, -1, 4) {
			parents, parts := goodByTheWords(l)
			if impl.GoodParents(l) != parents || impl.GoodParts(l) != parts {
				t.Fatalf("%v: want parents %v, parts %v", l, parents, parts)
			}
		}
	}
}

func countUp(l []int, low, high int) bool {
	for k := range l {
		if l[k]++; l[k] <= high {
			return true
		}
		l[k] = low
	}
	return false
}

// goodByTheWords takes parts as the words tell them: each has the least of its part.
func goodByTheWords(l []int) (bool, bool) {
	for k, parent := range l {
		if parent < 0 || parent > k {
			return false, false
		}
	}
	return true, slices.Equal(onenessOf(l).told(), l)
}

func TestWhatLiesBehindTheLengthIsNotRead(t *testing.T) {
	whole := []int{0, 0, 2, 9, -1}
	if !impl.GoodParents(whole[:3]) || !impl.GoodParts(whole[:3]) {
		t.Error("what lies behind the length was read")
	}
	got, ok := impl.MembersOf(whole[:3], 0)
	expectList(t, "MembersOf", got, ok, 0, 1)
	expectNoRoot(t, whole[:3], 3)
}

func TestFindRoot(t *testing.T) {
	l := []int{0, 0, 1, 3, 2, 3, 4}
	expectRoot(t, l, 0, 0, 0)
	expectRoot(t, l, 3, 3, 0)
	expectRoot(t, l, 1, 0, 1)
	expectRoot(t, l, 5, 3, 1)
	expectRoot(t, l, 2, 0, 2)
	expectRoot(t, l, 6, 0, 4)
	expectRoot(t, []int{0}, 0, 0, 0)
}

func TestFindRootAtTheEndOfALongWay(t *testing.T) {
	l := longWay(impl.MaxPoints)
	for k := range l {
		expectRoot(t, l, k, 0, k)
	}
	alone := aloneEach(impl.MaxPoints)
	for k := range alone {
		expectRoot(t, alone, k, k, 0)
	}
	l[1] = 1
	expectRoot(t, l, impl.MaxPoints-1, 1, impl.MaxPoints-2)
}

func TestUnionRoots(t *testing.T) {
	l := []int{0, 0, 1, 3, 2, 3, 6}
	expectUnion(t, l, 4, 5, 0, 0, 1, 0, 2, 3, 6)
	expectUnion(t, l, 0, 3, 0, 0, 1, 0, 2, 3, 6)
	expectUnion(t, l, 5, 6, 0, 0, 1, 3, 2, 3, 3)
	expectUnion(t, l, 6, 4, 0, 0, 1, 3, 2, 3, 0)
	expectUnion(t, []int{0, 1}, 0, 1, 0, 0)
}

// Of one root nothing changes, not even a long way to it.
func TestUnionRootsOfOneRoot(t *testing.T) {
	l := []int{0, 0, 1, 3, 2, 3, 6}
	for _, pair := range [][2]int{{0, 0}, {4, 4}, {1, 4}, {2, 0}, {3, 5}, {6, 6}} {
		expectUnion(t, l, pair[0], pair[1], l...)
	}
	long := longWay(impl.MaxPoints)
	expectUnion(t, long, 0, impl.MaxPoints-1, long...)
}

func TestFlatOf(t *testing.T) {
	for _, l := range [][2][]int{
		{{0, 0, 1, 3, 2, 3, 4}, {0, 0, 0, 3, 0, 3, 0}},
		{{0, 0, 0, 3}, {0, 0, 0, 3}},
		{{0, 1, 2, 3, 2}, {0, 1, 2, 3, 2}},
		{{0, 1, 1, 2, 3}, {0, 1, 1, 1, 1}},
		{aloneEach(impl.MaxPoints), aloneEach(impl.MaxPoints)},
		{longWay(impl.MaxPoints), make([]int, impl.MaxPoints)},
	} {
		got, ok := impl.FlatOf(l[0])
		expectList(t, "FlatOf", got, ok, l[1]...)
		if !impl.GoodParts(got) {
			t.Errorf("FlatOf(%v) is no good parts", l[0])
		}
	}
}

func TestJoinParts(t *testing.T) {
	l := []int{0, 1, 0, 3, 1, 3, 0}
	expectJoin(t, l, 4, 5, 0, 1, 0, 1, 1, 1, 0)
	expectJoin(t, l, 1, 3, 0, 1, 0, 1, 1, 1, 0)
	expectJoin(t, l, 6, 5, 0, 1, 0, 0, 1, 0, 0)
	expectJoin(t, l, 0, 1, 0, 0, 0, 3, 0, 3, 0)
	for _, pair := range [][2]int{{0, 0}, {6, 6}, {2, 6}, {1, 4}, {5, 3}} {
		expectJoin(t, l, pair[0], pair[1], l...)
	}
}

func TestMembersOf(t *testing.T) {
	l := []int{0, 1, 0, 3, 1, 5, 0}
	expectMembers(t, l, 0, 0, 2, 6)
	expectMembers(t, l, 2, 0, 2, 6)
	expectMembers(t, l, 6, 0, 2, 6)
	expectMembers(t, l, 4, 1, 4)
	expectMembers(t, l, 3, 3)
	expectMembers(t, make([]int, impl.MaxPoints), impl.MaxPoints-1, aloneEach(impl.MaxPoints)...)
	expectMembers(t, aloneEach(impl.MaxPoints), impl.MaxPoints-1, impl.MaxPoints-1)
}

func TestCountParts(t *testing.T) {
	expectCount(t, nil, 0)
	expectCount(t, []int{0}, 1)
	expectCount(t, []int{0, 0, 0}, 1)
	expectCount(t, []int{0, 1, 0, 3, 1, 5, 0}, 4)
	expectCount(t, aloneEach(impl.MaxPoints), impl.MaxPoints)
	expectCount(t, make([]int, impl.MaxPoints), 1)
}

func TestMeetParts(t *testing.T) {
	expectMeet(t, []int{0, 0, 2}, []int{0, 1, 1}, 0, 1, 2)
	expectMeet(t, []int{0, 0, 0, 0}, []int{0, 1, 1, 0}, 0, 1, 1, 0)
	// Neither list's least number is the least of the part of both.
	expectMeet(t, []int{0, 1, 0, 0, 1}, []int{0, 1, 1, 1, 0}, 0, 1, 2, 2, 4)
	expectMeet(t, []int{0, 1, 2, 1}, []int{0, 1, 2, 1}, 0, 1, 2, 1)
	alone, one := aloneEach(impl.MaxPoints), make([]int, impl.MaxPoints)
	expectMeet(t, alone, one, alone...)
	expectMeet(t, one, one, one...)
}

func TestIsFinerParts(t *testing.T) {
	expectFiner(t, []int{0, 1, 2}, []int{0, 0, 2}, true)
	expectFiner(t, []int{0, 0, 2}, []int{0, 1, 2}, false)
	expectFiner(t, []int{0, 0, 2}, []int{0, 0, 2}, true)
	expectFiner(t, []int{0, 0, 2}, []int{0, 1, 1}, false)
	expectFiner(t, []int{0, 1, 1, 3}, []int{0, 0, 0, 0}, true)
	expectFiner(t, []int{0, 1, 1, 3}, []int{0, 1, 2, 2}, false)
	expectFiner(t, []int{0, 1, 1, 3}, []int{0, 1, 1, 0}, true)
	alone, one := aloneEach(impl.MaxPoints), make([]int, impl.MaxPoints)
	expectFiner(t, alone, one, true)
	expectFiner(t, one, alone, false)
}

func TestTheEmptyListIsGood(t *testing.T) {
	for _, l := range [][]int{nil, {}, make([]int, 0, 4)} {
		if !impl.GoodParents(l) || !impl.GoodParts(l) {
			t.Error("the empty list: want good parents and good parts")
		}
		got, ok := impl.FlatOf(l)
		expectList(t, "FlatOf", got, ok)
		expectMeet(t, l, nil)
		expectFiner(t, l, nil, true)
		expectCount(t, l, 0)
		for _, k := range []int{-1, 0, 1} {
			expectNumbersNotThere(t, l, k)
		}
	}
}

// expectNumbersNotThere asks for k, which is none of l's numbers, at every place.
func expectNumbersNotThere(t *testing.T, l []int, k int) {
	t.Helper()
	expectNoRoot(t, l, k)
	members, ok := impl.MembersOf(l, k)
	expectNoList(t, "MembersOf", members, ok)
	for _, pair := range [][2]int{{k, 0}, {0, k}, {k, k}} {
		union, ok := impl.UnionRoots(l, pair[0], pair[1])
		expectNoList(t, "UnionRoots", union, ok)
		joined, ok := impl.JoinParts(l, pair[0], pair[1])
		expectNoList(t, "JoinParts", joined, ok)
	}
}

func TestNumbersThatAreNotThere(t *testing.T) {
	for _, l := range [][]int{{0}, {0, 0, 2}, aloneEach(impl.MaxPoints), make([]int, impl.MaxPoints)} {
		for _, k := range []int{-1, -2, len(l), len(l) + 1, math.MinInt, math.MaxInt} {
			expectNumbersNotThere(t, l, k)
		}
	}
}

func TestBadParentsHaveTheZeroAnswer(t *testing.T) {
	for name, l := range badParents() {
		expectNoRoot(t, l, 0)
		union, ok := impl.UnionRoots(l, 0, 0)
		expectNoList(t, "UnionRoots, "+name, union, ok)
		flat, ok := impl.FlatOf(l)
		expectNoList(t, "FlatOf, "+name, flat, ok)
	}
}

func TestBadPartsHaveTheZeroAnswer(t *testing.T) {
	for name, l := range badParts() {
		joined, ok := impl.JoinParts(l, 0, 0)
		expectNoList(t, "JoinParts, "+name, joined, ok)
		members, ok := impl.MembersOf(l, 0)
		expectNoList(t, "MembersOf, "+name, members, ok)
		if n, ok := impl.CountParts(l); n != 0 || ok {
			t.Errorf("CountParts, %s: got %d, %v, want 0, false", name, n, ok)
		}
		good := make([]int, len(l))
		expectNoPair(t, name, l, good)
		expectNoPair(t, name, good, l)
		expectNoPair(t, name, l, l)
	}
}

func TestListsThatAreUnlikeInLength(t *testing.T) {
	for _, pair := range [][2][]int{
		{nil, {0}}, {{0}, {0, 1}}, {{0, 0, 0}, {0, 0}}, {{0, 1, 2}, {0, 1, 2, 3}},
		{aloneEach(impl.MaxPoints), aloneEach(impl.MaxPoints - 1)},
	} {
		expectNoPair(t, "unlike lengths", pair[0], pair[1])
		expectNoPair(t, "unlike lengths", pair[1], pair[0])
	}
}

// Promise 5: whatever is joined, in whatever order, the trees tell the parts
// that joining tells, and both those of the table.
func TestTreesTellThePartsThatJoiningDoes(t *testing.T) {
	r := rand.New(rand.NewSource(5))
	for range 60 {
		length := 1 + r.Intn(25)
		trees := randomParents(r, length)
		parts, _ := impl.FlatOf(trees)
		table := onenessOf(trees)
		for range length {
			a, b := r.Intn(length), r.Intn(length)
			trees, _ = impl.UnionRoots(trees, a, b)
			parts, _ = impl.JoinParts(parts, a, b)
			table.tie(a, b)
			table.close()
			flat, ok := impl.FlatOf(trees)
			expectList(t, "FlatOf", flat, ok, parts...)
			expectList(t, "JoinParts", parts, true, table.told()...)
		}
	}
}

func TestTreesOfMaxPointsTellThePartsThatJoiningDoes(t *testing.T) {
	r := rand.New(rand.NewSource(55))
	trees := aloneEach(impl.MaxPoints)
	parts := aloneEach(impl.MaxPoints)
	for range 3 * impl.MaxPoints {
		a, b := r.Intn(impl.MaxPoints), r.Intn(impl.MaxPoints)
		trees, _ = impl.UnionRoots(trees, a, b)
		parts, _ = impl.JoinParts(parts, a, b)
		flat, ok := impl.FlatOf(trees)
		if !ok || !slices.Equal(flat, parts) {
			t.Fatalf("the trees tell %v, joining %v", flat, parts)
		}
	}
	if n, _ := impl.CountParts(parts); n > impl.MaxPoints/2 {
		t.Fatalf("%d parts are left: too little was joined", n)
	}
}

func TestRootsAndMembersAsTheTableTells(t *testing.T) {
	r := rand.New(rand.NewSource(6))
	for range 60 {
		l := randomParents(r, 1+r.Intn(30))
		table := onenessOf(l)
		flat, ok := impl.FlatOf(l)
		expectList(t, "FlatOf", flat, ok, table.told()...)
		for k := range l {
			expectRoot(t, l, k, table.told()[k], stepsUp(l, k))
			expectMembers(t, flat, k, table.with(k)...)
		}
		single := slices.Compact(slices.Sorted(slices.Values(flat)))
		expectCount(t, flat, len(single))
	}
}

func stepsUp(l []int, k int) int {
	if l[k] == k {
		return 0
	}
	return 1 + stepsUp(l, l[k])
}

func TestMeetAndFinerAsTheTablesTell(t *testing.T) {
	r := rand.New(rand.NewSource(7))
	finer := 0
	for range 400 {
		length := r.Intn(12)
		a, b := randomParts(r, length), randomParts(r, length)
		one, other := onenessOf(a), onenessOf(b)
		meet, is := onenessOf(aloneEach(length)), true
		for k := range length * length {
			x, y := k/length, k%length
			meet[x][y] = one[x][y] && other[x][y]
			is = is && (!one[x][y] || other[x][y])
		}
		expectMeet(t, a, b, meet.told()...)
		expectFiner(t, a, b, is)
		expectFiner(t, meet.told(), a, true)
		expectFiner(t, meet.told(), b, true)
		if is {
			finer++
		}
	}
	if finer < 20 || finer > 380 {
		t.Errorf("%d of 400 were finer: too much of one kind", finer)
	}
}

// withNumbersBehind hands a list over with numbers behind its length, which
// stay as they are if nothing is written there.
func withNumbersBehind(l []int) []int {
	return append(slices.Clone(l), 71, 72, 73)[:len(l)]
}

func callAllOfParts(l []int, a, b int) [][]int {
	impl.GoodParents(l)
	impl.GoodParts(l)
	impl.FindRoot(l, a)
	impl.IsFinerParts(l, l)
	impl.CountParts(l)
	union, _ := impl.UnionRoots(l, a, b)
	flat, _ := impl.FlatOf(l)
	joined, _ := impl.JoinParts(l, a, b)
	members, _ := impl.MembersOf(l, a)
	meet, _ := impl.MeetParts(l, l)
	return [][]int{union, flat, joined, members, meet}
}

func TestListsOfPointsStayAsTheyAre(t *testing.T) {
	lists := [][]int{{0}, {0, 0, 2, 3}, {0, 0, 1, 2}, {0, 1, 1, 0}, {0, 5, -1}, longWay(impl.MaxPoints)}
	for _, before := range lists {
		for _, pair := range [][2]int{{0, 0}, {0, 2}, {2, 0}, {3, 1}, {3, 3}, {-1, 9}} {
			l := withNumbersBehind(before)
			answers := callAllOfParts(l, pair[0], pair[1])
			for k, answer := range answers {
				spoilNumbers(answer)
				if !slices.Equal(l, before) || !slices.Equal(l[:len(l)+3][len(l):], []int{71, 72, 73}) {
					t.Fatalf("answer %d of %v at %v: the list is %v", k, before, pair, l[:len(l)+3])
				}
			}
		}
	}
}

// spoilNumbers writes over a list and over all that lies behind its length.
func spoilNumbers(l []int) {
	l = l[:cap(l)]
	for k := range l {
		l[k] = -99
	}
}

func TestTwoListsOfPointsAreNotTied(t *testing.T) {
	a, b := withNumbersBehind([]int{0, 0, 2}), withNumbersBehind([]int{0, 1, 1})
	meet, _ := impl.MeetParts(a, b)
	spoilNumbers(meet)
	impl.IsFinerParts(a, b)
	if !slices.Equal(a[:6], []int{0, 0, 2, 71, 72, 73}) || !slices.Equal(b[:6], []int{0, 1, 1, 71, 72, 73}) {
		t.Errorf("the lists are %v and %v", a[:6], b[:6])
	}
}

func TestTheSameCallTellsTheSame(t *testing.T) {
	l := []int{0, 1, 1, 0, 4}
	first := callAllOfParts(l, 3, 4)
	for range 3 {
		for k, again := range callAllOfParts(l, 3, 4) {
			expectList(t, "told again", again, true, first[k]...)
		}
	}
}
