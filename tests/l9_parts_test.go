package tests

import (
	"math"
	"slices"
	"sync"
	"testing"

	"loop.example/closingsticks/impl"
)

// The limits are written out here, so that a changed constant is noticed.
const (
	threeSticks = 3
	waysMax     = 280
)

// partNumbers returns the numbers that a part list of a number of sticks may have.
func partNumbers(sticks int) []int {
	return []int{-1, 0, 1, 2}[:sticks/threeSticks+1]
}

// isPartList tells by the words of the document whether a list is a part list of a bundle.
func isPartList(a []int, list []int) bool {
	if !isBundle(a) || len(list) != len(a) {
		return false
	}
	var numbers []int
	sticks := map[int][]int{}
	for at, x := range list {
		if x == -1 {
			continue
		}
		if len(sticks[x]) == 0 {
			numbers = append(numbers, x)
		}
		sticks[x] = append(sticks[x], a[at])
	}
	for want, x := range numbers {
		in := sticks[x]
		if x != want || len(in) != threeSticks || !sides(in[0], in[1], in[2]) {
			return false
		}
	}
	return true
}

// partShapes returns for each number of sticks up to the greatest all part lists of sticks
// of the same length, in the order of lists.
var partShapes = sync.OnceValue(func() [][][]int {
	shapes := [][][]int{nil}
	for sticks := 1; sticks <= sticksMax; sticks++ {
		same := slices.Repeat([]int{1}, sticks)
		var all [][]int
		for _, list := range listsOf(partNumbers(sticks), sticks) {
			if isPartList(same, list) {
				all = append(all, list)
			}
		}
		shapes = append(shapes, all)
	}
	return shapes
})

// partListsOf returns all part lists of a bundle, in the order of lists.
func partListsOf(a []int) [][]int {
	var all [][]int
	for _, list := range partShapes()[len(a)] {
		if isPartList(a, list) {
			all = append(all, list)
		}
	}
	return all
}

// threeSums returns the sums of the threes of a part list, in the order of their numbers.
func threeSums(a []int, list []int) []int {
	sums := make([]int, slices.Max(list)+1)
	for at, number := range list {
		if number >= 0 {
			sums[number] += a[at]
		}
	}
	return sums
}

// partCase is a bundle and what is told of it.
type partCase struct {
	bundle                         []int
	ways, most, round, equal, half int
	first                          []int
}

// partOf returns a bundle with what is told of it, found from all part lists and all sets.
func partOf(a []int) partCase {
	c := partCase{bundle: a, half: halvesOf(a)}
	for _, list := range partListsOf(a) {
		sums := threeSums(a, list)
		if c.first == nil || len(sums) > c.most {
			c.most, c.first = len(sums), list
		}
		c.round = max(c.round, sumOf(sums))
		if slices.Contains(list, -1) {
			continue
		}
		c.ways++
		if slices.Min(sums) == slices.Max(sums) {
			c.equal++
		}
	}
	return c
}

// halvesOf returns the number of sets of places, 0 among them, with half of the sum of all.
func halvesOf(a []int) int {
	halves := 0
	for set := range 1 << len(a) {
		sum := 0
		for at, x := range a {
			if set>>at&1 == 1 {
				sum += x
			}
		}
		if set&1 == 1 && 2*sum == sumOf(a) {
			halves++
		}
	}
	return halves
}

// mixedBundles returns bundles of all numbers of sticks, with lengths near each other and
// far from each other.
func mixedBundles() [][]int {
	state := uint64(9)
	random := func(n int) int {
		state = state*6364136223846793005 + 1442695040888963407
		return int(state>>33) % n
	}
	var all [][]int
	for i := range 540 {
		least := 1 + random(lengthMax)
		var b []int
		for range 1 + i%sticksMax {
			b = append(b, least+random(lengthMax-least+1))
		}
		all = append(all, slices.Sorted(slices.Values(b)))
	}
	return all
}

// partBundles returns small bundles, long ones with lengths of both ends, and mixed ones.
func partBundles() [][]int {
	return slices.Concat(
		bundlesOf([]int{1, 2, 3, 4, 5, 6, 7, 8}, 3),
		bundlesOf([]int{1, 2, 3, 4, 5}, 6),
		bundlesOf([]int{1, 2, 3, 60}, sticksMax),
		mixedBundles(),
		caseBundles())
}

// partFacts are all those bundles with what is told of them.
var partFacts = sync.OnceValue(func() []partCase {
	var all []partCase
	for _, a := range partBundles() {
		all = append(all, partOf(a))
	}
	return all
})

// partCases are bundles with what is told of them by hand.
func partCases() []partCase {
	return []partCase{
		{bundle: []int{1}, first: []int{-1}},
		{bundle: []int{60}, first: []int{-1}},
		{bundle: []int{1, 1}, first: []int{-1, -1}, half: 1},
		{bundle: []int{60, 60}, first: []int{-1, -1}, half: 1},
		{bundle: []int{1, 3}, first: []int{-1, -1}},
		{bundle: []int{1, 2}, first: []int{-1, -1}},
		{[]int{1, 1, 1}, 1, 1, 3, 1, 0, []int{0, 0, 0}},
		{[]int{3, 4, 5}, 1, 1, 12, 1, 0, []int{0, 0, 0}},
		{[]int{60, 60, 60}, 1, 1, 180, 1, 0, []int{0, 0, 0}},
		{[]int{30, 31, 60}, 1, 1, 121, 1, 0, []int{0, 0, 0}},
		// Flat, and less than that.
		{[]int{1, 1, 2}, 0, 0, 0, 0, 1, []int{-1, -1, -1}},
		{[]int{1, 2, 3}, 0, 0, 0, 0, 1, []int{-1, -1, -1}},
		{[]int{1, 2, 60}, 0, 0, 0, 0, 0, []int{-1, -1, -1}},
		// The least places are apart if they may be, and the place 0 ahead of all.
		{[]int{2, 2, 3, 9}, 0, 1, 7, 0, 0, []int{0, 0, 0, -1}},
		{[]int{2, 2, 2, 2}, 0, 1, 6, 0, 3, []int{-1, 0, 0, 0}},
		{[]int{1, 3, 3, 5}, 0, 1, 11, 0, 1, []int{-1, 0, 0, 0}},
		{[]int{1, 3, 3, 6}, 0, 1, 7, 0, 0, []int{0, 0, 0, -1}},
		{[]int{2, 2, 2, 2, 2}, 0, 1, 6, 0, 0, []int{-1, -1, 0, 0, 0}},
		{[]int{1, 1, 3, 3, 7}, 0, 1, 7, 0, 0, []int{-1, 0, 0, 0, -1}},
		// Six sticks: the greatest three of them are not always in one three.
		{[]int{1, 1, 1, 1, 1, 1}, 10, 2, 6, 10, 10, []int{0, 0, 0, 1, 1, 1}},
		{[]int{1, 1, 1, 2, 2, 2}, 1, 2, 9, 0, 0, []int{0, 0, 0, 1, 1, 1}},
		{[]int{1, 1, 3, 3, 3, 3}, 6, 2, 14, 6, 6, []int{0, 1, 0, 0, 1, 1}},
		{[]int{2, 2, 3, 3, 4, 4}, 8, 2, 18, 4, 4, []int{0, 0, 0, 1, 1, 1}},
		{[]int{1, 2, 4, 4, 5, 60}, 0, 1, 13, 0, 0, []int{-1, -1, 0, 0, 0, -1}},
		// Seven and eight sticks.
		{[]int{60, 60, 60, 60, 60, 60, 60}, 0, 2, 360, 0, 0, []int{-1, 0, 0, 0, 1, 1, 1}},
		{[]int{1, 2, 2, 3, 3, 3, 60}, 0, 2, 14, 0, 0, []int{0, 0, 0, 1, 1, 1, -1}},
		{[]int{1, 1, 1, 1, 1, 1, 1, 1}, 0, 2, 6, 0, 35, []int{-1, -1, 0, 0, 0, 1, 1, 1}},
		{[]int{1, 2, 3, 4, 5, 6, 7, 8}, 0, 2, 33, 0, 7, []int{-1, -1, 0, 0, 0, 1, 1, 1}},
		// Nine sticks: in threes of all sizes, and in none.
		{[]int{1, 1, 1, 1, 1, 1, 1, 1, 1}, 280, 3, 9, 280, 0, []int{0, 0, 0, 1, 1, 1, 2, 2, 2}},
		{[]int{60, 60, 60, 60, 60, 60, 60, 60, 60}, 280, 3, 540, 280, 0, []int{0, 0, 0, 1, 1, 1, 2, 2, 2}},
		{[]int{3, 3, 3, 4, 4, 4, 5, 5, 5}, 280, 3, 36, 36, 12, []int{0, 0, 0, 1, 1, 1, 2, 2, 2}},
		{[]int{1, 1, 1, 3, 3, 9, 9, 9, 9}, 24, 3, 45, 0, 0, []int{0, 0, 0, 1, 2, 1, 1, 2, 2}},
		{[]int{1, 1, 2, 3, 5, 8, 13, 21, 34}, 0, 0, 0, 0, 4, []int{-1, -1, -1, -1, -1, -1, -1, -1, -1}},
		{[]int{1, 1, 2, 3, 5, 8, 13, 21, 33}, 0, 1, 67, 0, 0, []int{-1, -1, -1, -1, -1, -1, 0, 0, 0}},
	}
}

// caseBundles returns the bundles of those cases.
func caseBundles() [][]int {
	var all [][]int
	for _, c := range partCases() {
		all = append(all, c.bundle)
	}
	return all
}

// mustFirstParts returns PartFirst of a bundle.
func mustFirstParts(t *testing.T, a []int) []int {
	t.Helper()
	first, ok := impl.PartFirst(a)
	if !ok {
		t.Fatalf("PartFirst of %v failed", a)
	}
	return first
}

// mustCall returns the number that a function tells of a bundle.
func mustCall(t *testing.T, name string, call func([]int) (int, bool), a []int) int {
	t.Helper()
	number, ok := call(a)
	if !ok {
		t.Fatalf("%s of %v failed", name, a)
	}
	return number
}

// Promise 80.

func TestPromise80PartMay(t *testing.T) {
	for _, c := range partFacts() {
		may := impl.PartMay(c.bundle)
		if may != (c.ways > 0) {
			t.Errorf("PartMay of %v is %v", c.bundle, may)
		}
		if !may {
			continue
		}
		most := mustCall(t, "PartMost", impl.PartMost, c.bundle)
		round := mustCall(t, "PartRound", impl.PartRound, c.bundle)
		sum := mustCall(t, "StickSum", impl.StickSum, c.bundle)
		if threeSticks*most != len(c.bundle) || round != sum {
			t.Errorf("PartMay of %v holds with %d threes of the sum %d", c.bundle, most, round)
		}
	}
}

func TestPartMayEdges(t *testing.T) {
	for _, c := range partCases() {
		if may := impl.PartMay(c.bundle); may != (c.ways > 0) {
			t.Errorf("PartMay of %v is %v", c.bundle, may)
		}
	}
	for _, a := range noBundles() {
		if impl.PartMay(a) {
			t.Errorf("PartMay of %v, which is no bundle, holds", a)
		}
	}
}

// Promise 81.

func TestPromise81PartWays(t *testing.T) {
	for _, c := range partFacts() {
		ways, ok := impl.PartWays(c.bundle)
		wantNumber(t, "PartWays", ways, ok, c.ways)
		if (ways == 0) == impl.PartMay(c.bundle) || ways > waysMax {
			t.Errorf("PartWays of %v is %d", c.bundle, ways)
		}
	}
}

func TestPartWaysEdges(t *testing.T) {
	for _, c := range partCases() {
		ways, ok := impl.PartWays(c.bundle)
		wantNumber(t, "PartWays", ways, ok, c.ways)
	}
	for _, a := range noBundles() {
		ways, ok := impl.PartWays(a)
		wantNoNumber(t, "PartWays", ways, ok)
	}
}

// Promise 82.

func TestPromise82PartMost(t *testing.T) {
	for _, c := range partFacts() {
		most, ok := impl.PartMost(c.bundle)
		wantNumber(t, "PartMost", most, ok, c.most)
		if threeSticks*most > len(c.bundle) || (most == 0) != impl.StickFree(c.bundle) {
			t.Errorf("PartMost of %v is %d", c.bundle, most)
		}
		if more, told := impl.StickPut(c.bundle, 1); told {
			if after := mustCall(t, "PartMost", impl.PartMost, more); after < most {
				t.Errorf("PartMost of %v is %d, and with one more stick %d", c.bundle, most, after)
			}
		}
	}
}

func TestPartMostEdges(t *testing.T) {
	for _, c := range partCases() {
		most, ok := impl.PartMost(c.bundle)
		wantNumber(t, "PartMost", most, ok, c.most)
	}
	for _, a := range noBundles() {
		most, ok := impl.PartMost(a)
		wantNoNumber(t, "PartMost", most, ok)
	}
}

// Promise 83.

func TestPromise83PartFirst(t *testing.T) {
	for _, c := range partFacts() {
		first, ok := impl.PartFirst(c.bundle)
		wantList(t, "PartFirst", first, ok, c.first)
		most := mustCall(t, "PartMost", impl.PartMost, c.bundle)
		if !impl.PartIs(c.bundle, first) || slices.Max(first) != most-1 {
			t.Errorf("PartFirst of %v is %v, and PartMost %d", c.bundle, first, most)
		}
	}
}

func TestPartFirstEdges(t *testing.T) {
	for _, c := range partCases() {
		first, ok := impl.PartFirst(c.bundle)
		wantList(t, "PartFirst", first, ok, c.first)
	}
	for _, a := range noBundles() {
		first, ok := impl.PartFirst(a)
		wantNoList(t, "PartFirst", first, ok)
	}
}

// Promise 84.

// checkIs checks PartIs of a bundle and a list, and what it promises with the numbers that
// PartMost and PartRound tell of the bundle.
func checkIs(t *testing.T, a []int, list []int, most int, round int) {
	t.Helper()
	is := impl.PartIs(a, list)
	if is != isPartList(a, list) {
		t.Fatalf("PartIs of %v and %v is %v", a, list, is)
	}
	if is && (slices.Max(list) >= most || sumOf(threeSums(a, list)) > round) {
		t.Errorf("PartIs of %v and %v holds, with PartMost %d and PartRound %d", a, list, most, round)
	}
}

func TestPromise84PartIs(t *testing.T) {
	for _, a := range partBundles() {
		most := mustCall(t, "PartMost", impl.PartMost, a)
		round := mustCall(t, "PartRound", impl.PartRound, a)
		// Some of these have a three that is no triangle.
		for _, list := range partShapes()[len(a)] {
			checkIs(t, a, list, most, round)
		}
		for at := range a {
			for number := -2; number <= 3; number++ {
				checkIs(t, a, with(mustFirstParts(t, a), at, number), most, round)
			}
		}
	}
}

func TestPartIsAllLists(t *testing.T) {
	for _, a := range slices.Concat(bundlesOf([]int{1, 2, 3, 4}, 4), [][]int{{2, 2, 2, 3, 3}, {1, 1, 3, 3, 3, 3}}) {
		most := mustCall(t, "PartMost", impl.PartMost, a)
		round := mustCall(t, "PartRound", impl.PartRound, a)
		for _, list := range listsOf([]int{-2, -1, 0, 1, 2}, len(a)) {
			checkIs(t, a, list, most, round)
		}
	}
	nine := []int{1, 1, 1, 3, 3, 9, 9, 9, 9}
	for _, list := range listsOf(partNumbers(len(nine)), len(nine)) {
		checkIs(t, nine, list, 3, 45)
	}
}

func TestPartIsEdges(t *testing.T) {
	cases := []struct {
		bundle, list []int
		want         bool
	}{
		{[]int{5}, []int{-1}, true},
		{[]int{5}, []int{0}, false},
		{[]int{5, 5}, []int{-1, -1}, true},
		{[]int{5, 5}, []int{0, 0}, false},
		{[]int{3, 4, 5}, []int{0, 0, 0}, true},
		{[]int{3, 4, 5}, []int{-1, -1, -1}, true},
		{[]int{3, 4, 5}, []int{1, 1, 1}, false},
		{[]int{3, 4, 5}, []int{-2, -2, -2}, false},
		{[]int{1, 2, 3}, []int{0, 0, 0}, false},
		// More or fewer numbers than sticks.
		{[]int{3, 4, 5}, nil, false},
		{[]int{3, 4, 5}, []int{0, 0}, false},
		{[]int{3, 4, 5}, []int{-1, -1}, false},
		{[]int{3, 4, 5}, []int{0, 0, 0, -1}, false},
		{[]int{3, 4, 5}, []int{-1, -1, -1, -1}, false},
		{[]int{3, 4, 5}, []int{0, 0, 0, 1, 1, 1}, false},
		// A three of two or of four sticks.
		{[]int{4, 4, 4, 4}, []int{0, 0, -1, -1}, false},
		{[]int{4, 4, 4, 4}, []int{0, 0, 0, 0}, false},
		// Numbers in the order of the least places, and none left out.
		{[]int{4, 4, 4, 4, 4, 4}, []int{0, 1, 1, 1, 0, 0}, true},
		{[]int{4, 4, 4, 4, 4, 4}, []int{1, 0, 0, 0, 1, 1}, false},
		{[]int{4, 4, 4, 4, 4, 4}, []int{0, 2, 2, 2, 0, 0}, false},
		{[]int{4, 4, 4, 4, 4, 4, 4}, []int{-1, 0, 0, 0, 1, 1, 1}, true},
		{[]int{4, 4, 4, 4, 4, 4, 4}, []int{-1, 1, 1, 1, 2, 2, 2}, false},
		{[]int{4, 4, 4, 4, 4, 4, 4, 4, 4}, []int{0, 1, 2, 0, 1, 2, 0, 1, 2}, true},
		{[]int{4, 4, 4, 4, 4, 4, 4, 4, 4}, []int{0, 2, 1, 0, 2, 1, 0, 2, 1}, false},
		// The last of the threes is no triangle.
		{[]int{1, 1, 1, 2, 2, 4}, []int{0, 0, 0, 1, 1, 1}, false},
		{[]int{1, 1, 1, 2, 3, 4}, []int{0, 0, 0, 1, 1, 1}, true},
	}
	for _, c := range cases {
		if got := impl.PartIs(c.bundle, c.list); got != c.want {
			t.Errorf("PartIs of %v and %v is %v", c.bundle, c.list, got)
		}
	}
}

func TestPartIsInvalid(t *testing.T) {
	for _, list := range someLists() {
		for _, a := range [][]int{{5}, {5, 5}, {5, 5, 5}, {5, 5, 5, 5}} {
			if impl.PartIs(a, list) != isPartList(a, list) {
				t.Errorf("PartIs of %v and %v is not told right", a, list)
			}
		}
	}
	for _, x := range []int{math.MinInt, -2, 1, 3, 9, math.MaxInt} {
		if impl.PartIs([]int{5, 5, 5}, []int{x, x, x}) || impl.PartIs([]int{5, 5, 5, 5}, []int{0, 0, 0, x}) {
			t.Errorf("PartIs with the number %d holds", x)
		}
	}
	for _, a := range noBundles() {
		if impl.PartIs(a, nil) || impl.PartIs(a, make([]int, len(a))) || impl.PartIs(a, slices.Repeat([]int{-1}, len(a))) {
			t.Errorf("PartIs of %v, which is no bundle, holds", a)
		}
		for _, list := range caseBundles() {
			if impl.PartIs(a, list) {
				t.Errorf("PartIs of %v and %v holds", a, list)
			}
		}
	}
	for _, a := range [][]int{{5, 4, 3}, {0, 3, 3}, {60, 60, 61}} {
		if impl.PartIs(a, []int{0, 0, 0}) || impl.PartIs(a, []int{-1, -1, -1}) {
			t.Errorf("PartIs of %v, which is no bundle, holds", a)
		}
	}
}

// Promise 85.

func TestPromise85PartRound(t *testing.T) {
	for _, c := range partFacts() {
		round, ok := impl.PartRound(c.bundle)
		wantNumber(t, "PartRound", round, ok, c.round)
		widest, told := impl.StickWidest(c.bundle)
		if round > mustCall(t, "StickSum", impl.StickSum, c.bundle) || round < widest || (round == 0) == told {
			t.Errorf("PartRound of %v is %d, and StickWidest %d, %v", c.bundle, round, widest, told)
		}
	}
}

func TestPartRoundEdges(t *testing.T) {
	for _, c := range partCases() {
		round, ok := impl.PartRound(c.bundle)
		wantNumber(t, "PartRound", round, ok, c.round)
	}
	for _, a := range noBundles() {
		round, ok := impl.PartRound(a)
		wantNoNumber(t, "PartRound", round, ok)
	}
}

// Promise 86.

func TestPromise86PartEqual(t *testing.T) {
	for _, c := range partFacts() {
		equal, ok := impl.PartEqual(c.bundle)
		wantNumber(t, "PartEqual", equal, ok, c.equal)
		ways := mustCall(t, "PartWays", impl.PartWays, c.bundle)
		if equal > ways || len(c.bundle) == threeSticks && equal != ways {
			t.Errorf("PartEqual of %v is %d, and PartWays %d", c.bundle, equal, ways)
		}
	}
}

func TestPartEqualEdges(t *testing.T) {
	for _, c := range partCases() {
		equal, ok := impl.PartEqual(c.bundle)
		wantNumber(t, "PartEqual", equal, ok, c.equal)
	}
	for _, a := range noBundles() {
		equal, ok := impl.PartEqual(a)
		wantNoNumber(t, "PartEqual", equal, ok)
	}
}

// Promise 87.

func TestPromise87PartTwo(t *testing.T) {
	for _, c := range partFacts() {
		two, ok := impl.PartTwo(c.bundle)
		wantNumber(t, "PartTwo", two, ok, c.half)
		if ways := mustCall(t, "FoldWays", impl.FoldWays, c.bundle); 2*two != ways {
			t.Errorf("PartTwo of %v is %d, and FoldWays %d", c.bundle, two, ways)
		}
	}
}

func TestPartTwoEdges(t *testing.T) {
	for _, c := range partCases() {
		two, ok := impl.PartTwo(c.bundle)
		wantNumber(t, "PartTwo", two, ok, c.half)
	}
	cases := []struct {
		bundle []int
		want   int
	}{
		{[]int{2}, 0},
		{[]int{1, 5}, 0},
		{[]int{1, 1, 1, 3}, 1},
		{[]int{1, 1, 1, 1, 2, 2}, 7},
		{[]int{2, 2, 2, 2, 2, 2, 2, 2, 2}, 0},
		{[]int{1, 2, 3, 4, 5, 6, 7}, 4},
		{[]int{60, 60, 60, 60, 60, 60, 60, 60}, 35},
		{[]int{1, 1, 1, 1, 1, 1, 1, 1, 8}, 1},
		{[]int{1, 1, 1, 1, 1, 1, 1, 1, 6}, 8},
	}
	for _, c := range cases {
		two, ok := impl.PartTwo(c.bundle)
		wantNumber(t, "PartTwo", two, ok, c.want)
	}
	for _, a := range noBundles() {
		two, ok := impl.PartTwo(a)
		wantNoNumber(t, "PartTwo", two, ok)
	}
}

// Promise 88.

func TestPromise88StickSort(t *testing.T) {
	lists := slices.Concat(someLists(), noBundles())
	for _, a := range mixedBundles() {
		lists = append(lists, backwards(a), slices.Concat(a[len(a)/2:], a[:len(a)/2]))
	}
	for _, list := range lists {
		sorted, told := impl.StickSort(list)
		most, ok := impl.PartMost(sorted)
		if ok != told {
			t.Errorf("PartMost of StickSort of %v returned %v", list, ok)
		}
		if threeSticks*most > len(sorted) {
			t.Errorf("PartMost of StickSort of %v is %d", list, most)
		}
		// A list in another order is no bundle.
		most, ok = impl.PartMost(list)
		if ok != isBundle(list) {
			t.Errorf("PartMost of %v returned %d, %v", list, most, ok)
		}
	}
}

// Fewer than three sticks.

func TestPartFewSticks(t *testing.T) {
	for _, a := range bundlesOf([]int{1, 2, 3, 30, 59, 60}, 2) {
		if impl.PartMay(a) {
			t.Errorf("PartMay of %v holds", a)
		}
		for name, call := range map[string]func([]int) (int, bool){
			"PartWays": impl.PartWays, "PartMost": impl.PartMost, "PartRound": impl.PartRound, "PartEqual": impl.PartEqual,
		} {
			number, ok := call(a)
			wantNumber(t, name, number, ok, 0)
		}
		first, ok := impl.PartFirst(a)
		wantList(t, "PartFirst", first, ok, slices.Repeat([]int{-1}, len(a)))
		same := 0
		if len(a) == 2 && a[0] == a[1] {
			same = 1
		}
		two, ok := impl.PartTwo(a)
		wantNumber(t, "PartTwo", two, ok, same)
	}
}

// The general rules: no argument changes, and no memory is shared.

func TestPartMemory(t *testing.T) {
	for _, a := range slices.Concat(caseBundles(), noBundles(), mixedBundles()[:60]) {
		wantOwn(t, "PartFirst", a, func(a []int) []int {
			first, _ := impl.PartFirst(a)
			return first
		})
		wantOwn(t, "PartWays and the others", a, func(a []int) []int {
			impl.PartMay(a)
			impl.PartWays(a)
			impl.PartMost(a)
			impl.PartIs(a, a)
			impl.PartIs(a, make([]int, len(a)))
			impl.PartRound(a)
			impl.PartEqual(a)
			impl.PartTwo(a)
			return nil
		})
	}
}

func TestPartListMemory(t *testing.T) {
	for _, c := range partCases() {
		for _, list := range [][]int{c.first, backwards(c.first), c.bundle} {
			wantOwn(t, "PartIs", list, func(list []int) []int {
				impl.PartIs(c.bundle, list)
				return nil
			})
		}
	}
}
