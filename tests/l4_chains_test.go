package tests

import (
	"math"
	"slices"
	"testing"

	"loop.example/closingsticks/impl"
)

// linked tells whether no number of some lists is greater than all others together:
// whether rods with these lengths, one of which may be a distance, go round.
func linked(lists ...[]int) bool {
	all := slices.Concat(lists...)
	return 2*slices.Max(all) <= sumOf(all)
}

// reachOf returns the least and the greatest distance that a bundle reaches, of all distances.
func reachOf(a []int) [2]int {
	var all []int
	for d := 0; d <= sumOf(a)+1; d++ {
		if linked(a, []int{d}) {
			all = append(all, d)
		}
	}
	return [2]int{all[0], all[len(all)-1]}
}

// holdOf returns the least length of a rod with which a bundle goes round, of all lengths.
func holdOf(a []int) int {
	x := 1
	for !linked(a, []int{x}) {
		x++
	}
	return x
}

// bestOf returns the greatest number of least rods of a bundle that reach a distance, or 0.
func bestOf(a []int, d int) int {
	best := 0
	for k := 1; k <= len(a); k++ {
		if linked(a[:k], []int{d}) {
			best = k
		}
	}
	return best
}

// fewChains returns bundles of one rod and of more, of each way to reach.
func fewChains() [][]int {
	return [][]int{
		{1}, {2}, {7}, {59}, {60},
		{1, 1}, {1, 2}, {5, 5}, {1, 60}, {59, 60}, {60, 60},
		{1, 2, 3}, {1, 1, 3}, {3, 4, 5}, {2, 3, 9}, {1, 1, 60}, {60, 60, 60},
		{1, 5, 5, 60}, {1, 1, 1, 4}, {30, 30, 30, 30},
		{1, 1, 1, 1, 1, 1, 1, 1, 8},
		{1, 1, 1, 1, 1, 1, 1, 1, 60},
		{52, 53, 54, 55, 56, 57, 58, 59, 60},
		{60, 60, 60, 60, 60, 60, 60, 60, 60},
	}
}

// reachCases are bundles and their reaches.
func reachCases() []struct {
	bundle []int
	want   [2]int
} {
	return []struct {
		bundle []int
		want   [2]int
	}{
		{[]int{1}, [2]int{1, 1}},
		{[]int{7}, [2]int{7, 7}},
		{[]int{60}, [2]int{60, 60}},
		{[]int{1, 1}, [2]int{0, 2}},
		{[]int{60, 60}, [2]int{0, 120}},
		{[]int{1, 2}, [2]int{1, 3}},
		{[]int{1, 60}, [2]int{59, 61}},
		{[]int{1, 1, 2}, [2]int{0, 4}},
		{[]int{1, 1, 3}, [2]int{1, 5}},
		{[]int{3, 4, 5}, [2]int{0, 12}},
		{[]int{2, 3, 9}, [2]int{4, 14}},
		{[]int{1, 1, 60}, [2]int{58, 62}},
		{[]int{1, 1, 1, 1, 1, 1, 1, 1, 8}, [2]int{0, 16}},
		{[]int{1, 1, 1, 1, 1, 1, 1, 1, 9}, [2]int{1, 17}},
		{[]int{1, 1, 1, 1, 1, 1, 1, 1, 60}, [2]int{52, 68}},
		{[]int{60, 60, 60, 60, 60, 60, 60, 60, 60}, [2]int{0, 540}},
	}
}

// wantReaches checks a function that returns reaches: at edges, of one rod, and of no bundles.
func wantReaches(t *testing.T, name string, call func([]int) (int, int, bool)) {
	t.Helper()
	for _, c := range reachCases() {
		least, most, ok := call(c.bundle)
		wantPair(t, name, least, most, ok, c.want)
	}
	for _, a := range noBundles() {
		least, most, ok := call(a)
		wantNoPair(t, name, least, most, ok)
	}
	for x := 1; x <= lengthMax; x++ {
		least, most, ok := call([]int{x})
		wantPair(t, name+" of one rod", least, most, ok, [2]int{x, x})
	}
}

// noDistances returns numbers that are no distance of two chains.
func noDistances() []int {
	return []int{math.MinInt, -1000, -5, -1, 1001, 1080, 2000, math.MaxInt}
}

// Promise 33.

func TestPromise33ChainReach(t *testing.T) {
	for _, a := range slices.Concat(polygons(), someLists(), noBundles()) {
		least, most, ok := impl.ChainReach(a)
		if !isBundle(a) {
			wantNoPair(t, "ChainReach", least, most, ok)
			continue
		}
		wantPair(t, "ChainReach", least, most, ok, reachOf(a))
		one, two, ok := impl.ChainStep(a)
		wantPair(t, "ChainStep as ChainReach", one, two, ok, [2]int{least, most})
		if !impl.ChainTo(a, least) || !impl.ChainTo(a, most) {
			t.Errorf("ChainReach of %v is %d, %d, ChainTo does not hold for both", a, least, most)
		}
		if impl.ChainTo(a, most+1) || impl.ChainTo(a, least-1) {
			t.Errorf("ChainReach of %v is %d, %d, ChainTo holds beyond", a, least, most)
		}
	}
}

func TestChainReachEdges(t *testing.T) {
	wantReaches(t, "ChainReach", impl.ChainReach)
}

// Promise 34.

func TestPromise34ChainStep(t *testing.T) {
	for _, a := range slices.Concat(polygons(), someLists(), noBundles()) {
		least, most, ok := impl.ChainStep(a)
		if !isBundle(a) {
			wantNoPair(t, "ChainStep", least, most, ok)
			continue
		}
		wantPair(t, "ChainStep", least, most, ok, reachOf(a))
		sum, okSum := impl.StickSum(a)
		wantNumber(t, "StickSum as the greatest distance", sum, okSum, most)
		if gap, ok := impl.PolyGap(a); !ok || (gap >= 0) != (least == 0) {
			t.Errorf("ChainStep of %v is %d, %d, PolyGap %d, %v", a, least, most, gap, ok)
		}
	}
}

func TestChainStepEdges(t *testing.T) {
	wantReaches(t, "ChainStep", impl.ChainStep)
}

// Promise 35.

func TestPromise35ChainTo(t *testing.T) {
	for _, a := range slices.Concat(bundlesOf([]int{1, 2, 3, 5, 8, 30, 59, 60}, 4), fewChains()) {
		longer, okLonger := impl.StickPut(a, 3)
		for d := 0; d <= sumOf(a)+3; d++ {
			got := impl.ChainTo(a, d)
			if got != linked(a, []int{d}) {
				t.Errorf("ChainTo of %v and %d returned %v", a, d, got)
			}
			if !got || !okLonger {
				continue
			}
			if !impl.ChainTo(longer, d+3) || !impl.ChainTo(longer, max(d-3, 3-d)) {
				t.Errorf("ChainTo of %v and %d holds, but not with 3 more for both distances", a, d)
			}
		}
	}
}

func TestChainToEdges(t *testing.T) {
	cases := []struct {
		bundle []int
		d      int
		want   bool
	}{
		{[]int{1}, 0, false}, {[]int{1}, 1, true}, {[]int{1}, 2, false}, {[]int{1}, -1, false},
		{[]int{60}, 59, false}, {[]int{60}, 60, true}, {[]int{60}, 61, false}, {[]int{60}, -60, false},
		{[]int{5, 5}, -1, false}, {[]int{5, 5}, 0, true}, {[]int{5, 5}, 10, true}, {[]int{5, 5}, 11, false},
		{[]int{2, 3, 9}, 3, false}, {[]int{2, 3, 9}, 4, true}, {[]int{2, 3, 9}, 9, true},
		{[]int{2, 3, 9}, 14, true}, {[]int{2, 3, 9}, 15, false}, {[]int{2, 3, 9}, -4, false},
		{[]int{60, 60, 60, 60, 60, 60, 60, 60, 60}, 540, true},
		{[]int{60, 60, 60, 60, 60, 60, 60, 60, 60}, 541, false},
	}
	for _, c := range cases {
		if got := impl.ChainTo(c.bundle, c.d); got != c.want {
			t.Errorf("ChainTo of %v and %d returned %v", c.bundle, c.d, got)
		}
	}
	for _, a := range fewChains() {
		for _, d := range noDistances() {
			if impl.ChainTo(a, d) {
				t.Errorf("ChainTo of %v and %d holds", a, d)
			}
		}
	}
	for _, a := range slices.DeleteFunc(slices.Concat(someLists(), noBundles()), isBundle) {
		for _, d := range []int{math.MinInt, -1, 0, 1, 5, 60, 61, math.MaxInt} {
			if impl.ChainTo(a, d) {
				t.Errorf("ChainTo of %v and %d holds", a, d)
			}
		}
	}
}

// Promise 36.

func TestPromise36ChainMeet(t *testing.T) {
	for _, a := range fewChains() {
		for _, b := range fewChains() {
			for d := 0; d <= 1000; d++ {
				got := impl.ChainMeet(a, b, d)
				if got != linked(a, b, []int{d}) {
					t.Errorf("ChainMeet of %v, %v and %d returned %v", a, b, d, got)
				}
				if got && !impl.ChainMeet(b, a, d) {
					t.Errorf("ChainMeet of %v, %v and %d holds, not with both exchanged", a, b, d)
				}
			}
		}
	}
}

func TestChainMeetEdges(t *testing.T) {
	nine := []int{60, 60, 60, 60, 60, 60, 60, 60, 60}
	cases := []struct {
		a, b []int
		d    int
		want bool
	}{
		{[]int{2}, []int{3}, 0, false}, {[]int{2}, []int{3}, 1, true},
		{[]int{2}, []int{3}, 5, true}, {[]int{2}, []int{3}, 6, false},
		{[]int{1}, []int{1}, 0, true}, {[]int{1}, []int{1}, 2, true}, {[]int{1}, []int{1}, 3, false},
		{[]int{1}, []int{60}, 58, false}, {[]int{1}, []int{60}, 59, true}, {[]int{60}, []int{1}, 61, true}, {[]int{60}, []int{1}, 62, false},
		{[]int{2, 3, 9}, []int{3}, 0, false}, {[]int{2, 3, 9}, []int{3}, 1, true}, {[]int{2, 3, 9}, []int{4}, 0, true},
		{[]int{3}, []int{2, 3, 9}, 0, false}, {[]int{3}, []int{2, 3, 9}, 1, true}, {[]int{3}, []int{2, 3, 9}, 17, true},
		{nine, nine, 0, true}, {nine, nine, 999, true}, {nine, nine, 1000, true},
		{nine, nine, 1001, false}, {nine, nine, 1080, false}, {nine, nine, -1, false},
	}
	for _, c := range cases {
		if got := impl.ChainMeet(c.a, c.b, c.d); got != c.want {
			t.Errorf("ChainMeet of %v, %v and %d returned %v", c.a, c.b, c.d, got)
		}
	}
	for _, a := range fewChains() {
		for _, d := range noDistances() {
			if impl.ChainMeet(a, a, d) || impl.ChainMeet(a, nine, d) || impl.ChainMeet(nine, a, d) {
				t.Errorf("ChainMeet of %v and %d holds", a, d)
			}
		}
	}
	for _, a := range slices.DeleteFunc(slices.Concat(someLists(), noBundles()), isBundle) {
		for _, d := range []int{-1, 0, 1, 2, 60, 61, 1001} {
			if impl.ChainMeet(a, []int{1, 60, 60}, d) || impl.ChainMeet([]int{1, 60, 60}, a, d) || impl.ChainMeet(a, a, d) {
				t.Errorf("ChainMeet of %v and %d holds", a, d)
			}
		}
	}
}

// Promise 37.

func TestPromise37ChainMeetItself(t *testing.T) {
	for _, a := range polygons() {
		for _, d := range []int{0, 7, sumOf(a)} {
			if got := impl.ChainMeet(a, a, d); got != linked(a, a, []int{d}) {
				t.Errorf("ChainMeet of %v, itself and %d returned %v", a, d, got)
			}
		}
	}
	for x := 1; x <= lengthMax; x++ {
		if got := impl.ChainMeet([]int{x}, []int{x}, 7); got != (x >= 4) {
			t.Errorf("ChainMeet of %d, itself and 7 returned %v", x, got)
		}
	}
}

// Promise 38.

func TestPromise38ChainClose(t *testing.T) {
	for _, a := range slices.Concat(polygons(), someLists(), noBundles()) {
		got := impl.ChainClose(a)
		if got != (isBundle(a) && linked(a)) {
			t.Errorf("ChainClose of %v returned %v", a, got)
		}
		if !got {
			continue
		}
		if gap, ok := impl.PolyGap(a); !ok || gap < 0 {
			t.Errorf("ChainClose of %v holds, PolyGap is %d, %v", a, gap, ok)
		}
		hold, ok := impl.ChainHold(a)
		wantNumber(t, "ChainHold of a chain that closes", hold, ok, 1)
	}
}

func TestChainCloseEdges(t *testing.T) {
	for _, a := range [][]int{{1, 1}, {60, 60}, {1, 2, 3}, {3, 4, 5}, {1, 1, 1, 3}, {1, 1, 1, 1, 1, 1, 1, 1, 8}, {60, 60, 60, 60, 60, 60, 60, 60, 60}} {
		if !impl.ChainClose(a) {
			t.Errorf("ChainClose of %v does not hold", a)
		}
	}
	open := [][]int{{1}, {7}, {60}, {1, 2}, {59, 60}, {1, 1, 3}, {2, 3, 9}, {1, 1, 1, 1, 1, 1, 1, 1, 9}, {5, 4, 3}, {60, 60, 61}, {0, 0}}
	for _, a := range slices.Concat(open, noBundles()) {
		if impl.ChainClose(a) {
			t.Errorf("ChainClose of %v holds", a)
		}
	}
}

// Promise 39.

func TestPromise39ChainHold(t *testing.T) {
	for _, a := range slices.Concat(polygons(), someLists(), noBundles()) {
		hold, ok := impl.ChainHold(a)
		if !isBundle(a) {
			wantNoNumber(t, "ChainHold", hold, ok)
			continue
		}
		wantNumber(t, "ChainHold", hold, ok, holdOf(a))
		longer, okLonger := impl.StickPut(a, hold)
		if okLonger != (len(a) < sticksMax) || okLonger && !impl.ChainClose(longer) {
			t.Errorf("ChainHold of %v is %d, and does not close", a, hold)
		}
		if !impl.ChainTo(a, hold) {
			t.Errorf("ChainHold of %v is %d, ChainTo does not hold for it", a, hold)
		}
	}
}

func TestChainHoldEdges(t *testing.T) {
	cases := []struct {
		bundle []int
		want   int
	}{
		{[]int{1}, 1},
		{[]int{7}, 7},
		{[]int{60}, 60},
		{[]int{1, 1}, 1},
		{[]int{60, 60}, 1},
		{[]int{1, 2}, 1},
		{[]int{2, 7}, 5},
		{[]int{1, 60}, 59},
		{[]int{3, 4, 5}, 1},
		{[]int{2, 3, 9}, 4},
		{[]int{1, 1, 1, 1, 1, 1, 1, 1, 8}, 1},
		{[]int{1, 1, 1, 1, 1, 1, 1, 1, 9}, 1},
		{[]int{1, 1, 1, 1, 1, 1, 1, 1, 10}, 2},
		{[]int{1, 1, 1, 1, 1, 1, 1, 1, 60}, 52},
	}
	for _, c := range cases {
		hold, ok := impl.ChainHold(c.bundle)
		wantNumber(t, "ChainHold", hold, ok, c.want)
	}
	for _, a := range noBundles() {
		hold, ok := impl.ChainHold(a)
		wantNoNumber(t, "ChainHold", hold, ok)
	}
}

// Promise 40.

func TestPromise40ChainBest(t *testing.T) {
	for _, a := range slices.Concat(bundlesOf([]int{1, 2, 3, 5, 8, 30, 59, 60}, 4), fewChains()) {
		for d := 0; d <= sumOf(a)+3; d++ {
			best, ok := impl.ChainBest(a, d)
			if bestOf(a, d) == 0 {
				wantNoNumber(t, "ChainBest", best, ok)
				continue
			}
			wantNumber(t, "ChainBest", best, ok, bestOf(a, d))
			for k := best; k <= len(a); k++ {
				if impl.ChainTo(a[:k], d) != (k == best) {
					t.Errorf("ChainBest of %v and %d is %d, ChainTo differs for %d rods", a, d, best, k)
				}
			}
		}
	}
}

func TestChainBestEdges(t *testing.T) {
	cases := []struct {
		bundle []int
		d      int
		want   int
	}{
		{[]int{1}, 1, 1},
		{[]int{60}, 60, 1},
		{[]int{5, 5}, 0, 2},
		{[]int{5, 5}, 10, 2},
		{[]int{1, 60}, 1, 1},
		{[]int{1, 60}, 59, 2},
		{[]int{1, 1, 60}, 0, 2},
		{[]int{1, 1, 60}, 2, 2},
		{[]int{1, 1, 60}, 62, 3},
		{[]int{2, 3, 9}, 2, 2},
		{[]int{2, 3, 9}, 4, 3},
		{[]int{1, 1, 1, 1, 1, 1, 1, 1, 60}, 8, 8},
		{[]int{1, 1, 1, 1, 1, 1, 1, 1, 60}, 68, 9},
		{[]int{60, 60, 60, 60, 60, 60, 60, 60, 60}, 0, 9},
		{[]int{60, 60, 60, 60, 60, 60, 60, 60, 60}, 540, 9},
	}
	for _, c := range cases {
		best, ok := impl.ChainBest(c.bundle, c.d)
		wantNumber(t, "ChainBest", best, ok, c.want)
	}
	fails := []struct {
		bundle []int
		d      int
	}{
		{[]int{1}, 0},
		{[]int{1}, 2},
		{[]int{60}, 59},
		{[]int{60}, 61},
		{[]int{1, 60}, 0},
		{[]int{1, 60}, 2},
		{[]int{1, 1, 60}, 30},
		{[]int{1, 1, 60}, 63},
		{[]int{60, 60, 60, 60, 60, 60, 60, 60, 60}, 541},
		{[]int{60, 60, 60, 60, 60, 60, 60, 60, 60}, 1000},
	}
	for _, c := range fails {
		best, ok := impl.ChainBest(c.bundle, c.d)
		wantNoNumber(t, "ChainBest", best, ok)
	}
	for _, a := range fewChains() {
		for _, d := range noDistances() {
			best, ok := impl.ChainBest(a, d)
			wantNoNumber(t, "ChainBest", best, ok)
		}
	}
	for _, a := range slices.DeleteFunc(slices.Concat(someLists(), noBundles()), isBundle) {
		for _, d := range []int{-1, 0, 1, 3, 60, 61, 1001} {
			best, ok := impl.ChainBest(a, d)
			wantNoNumber(t, "ChainBest", best, ok)
		}
	}
}

// The general rules: no argument changes.

func TestChainMemory(t *testing.T) {
	for _, a := range slices.Concat(fewChains(), noBundles()) {
		wantOwn(t, "ChainReach and the others", a, func(a []int) []int {
			impl.ChainReach(a)
			impl.ChainStep(a)
			impl.ChainTo(a, 5)
			impl.ChainMeet(a, []int{3, 4, 5}, 5)
			impl.ChainMeet([]int{3, 4, 5}, a, 5)
			impl.ChainMeet(a, a, 5)
			impl.ChainClose(a)
			impl.ChainHold(a)
			impl.ChainBest(a, 5)
			return nil
		})
	}
}
