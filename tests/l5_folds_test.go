package tests

import (
	"math"
	"runtime"
	"slices"
	"strings"
	"sync"
	"testing"

	"loop.example/closingsticks/impl"
)

// isRuler tells by the words of the document whether a list is a ruler.
func isRuler(a []int) bool {
	inRange := func(x int) bool { return x >= 1 && x <= lengthMax }
	return len(a) >= 1 && len(a) <= sticksMax && !slices.ContainsFunc(a, func(x int) bool { return !inRange(x) })
}

// sidesOf returns the letters of all foldings of some sticks, r being first.
func sidesOf(sticks int) []string {
	all := []string{""}
	for range sticks {
		var next []string
		for _, s := range all {
			next = append(next, s+"r", s+"l")
		}
		all = next
	}
	return all
}

// endsOf returns the places where the sticks of a folding end, the beginning ahead of them.
func endsOf(a []int, sides string) []int {
	ends := []int{0}
	for i, x := range a {
		if sides[i] == 'l' {
			x = -x
		}
		ends = append(ends, ends[i]+x)
	}
	return ends
}

// spanOf returns the span of a folding.
func spanOf(a []int, sides string) int {
	ends := endsOf(a, sides)
	return slices.Max(ends) - slices.Min(ends)
}

// lastEndsOf returns for each place from 0 on where the last stick of a ruler may end
// the number of the foldings that end there.
func lastEndsOf(a []int) map[int]int {
	ways := map[int]int{}
	for _, sides := range sidesOf(len(a)) {
		if end := endsOf(a, sides)[len(a)]; end >= 0 {
			ways[end]++
		}
	}
	return ways
}

// lastPlacesOf returns the places from 0 on where the last stick of a ruler may end.
func lastPlacesOf(a []int) []int {
	ways := lastEndsOf(a)
	var places []int
	for end := 0; end <= sumOf(a); end++ {
		if ways[end] > 0 {
			places = append(places, end)
		}
	}
	return places
}

// bestSidesOf returns the first folding of the least span of a ruler.
func bestSidesOf(a []int) string {
	best := ""
	for _, sides := range sidesOf(len(a)) {
		if best == "" || spanOf(a, sides) < spanOf(a, best) {
			best = sides
		}
	}
	return best
}

// leastSpanOf returns the least span of a ruler.
func leastSpanOf(a []int) int {
	return spanOf(a, bestSidesOf(a))
}

// greedySpanOf returns the span of the folding to the right as far as the greatest length.
func greedySpanOf(a []int) int {
	sides := ""
	for i, x := range a {
		if endsOf(a[:i], sides)[i]+x > slices.Max(a) {
			sides += "l"
		} else {
			sides += "r"
		}
	}
	return spanOf(a, sides)
}

// backOf returns a list backwards.
func backOf(a []int) []int {
	var back []int
	for i := range a {
		back = append(back, a[len(a)-1-i])
	}
	return back
}

// listsOf returns all lists of a number of the given lengths, in any order.
func listsOf(lengths []int, sticks int) [][]int {
	all := [][]int{{}}
	for range sticks {
		var next [][]int
		for _, list := range all {
			for _, x := range lengths {
				next = append(next, append(slices.Clone(list), x))
			}
		}
		all = next
	}
	return all
}

// oneStick returns the rulers of one stick, of each length.
func oneStick() [][]int {
	var all [][]int
	for x := 1; x <= lengthMax; x++ {
		all = append(all, []int{x})
	}
	return all
}

// longRulers returns rulers of many sticks, some of which need nearly twice the greatest length.
func longRulers() [][]int {
	return [][]int{
		{5, 3, 1, 4, 2},
		{48, 36, 44, 27, 54},
		{54, 27, 44, 36, 48},
		{55, 28, 55, 3, 4, 41},
		{42, 33, 45, 27, 46, 41},
		{37, 55, 52, 49, 5, 17},
		{46, 39, 38, 30, 41, 27, 47},
		{60, 1, 60, 1, 60, 1, 60},
		{1, 2, 4, 8, 16, 32, 60},
		{19, 60, 2, 27, 54, 59, 36, 60},
		{36, 56, 40, 56, 37, 48, 36, 57},
		{57, 32, 55, 33, 26, 38, 55, 3, 31},
		{4, 53, 53, 33, 53, 39, 51, 32, 15},
		{34, 21, 13, 8, 5, 3, 2, 1, 1},
		{1, 1, 1, 1, 1, 1, 1, 1, 1},
		{1, 1, 1, 1, 1, 1, 1, 1, 8},
		{1, 60, 1, 60, 1, 60, 1, 60, 1},
		{52, 53, 54, 55, 56, 57, 58, 59, 60},
		{60, 60, 60, 60, 60, 60, 60, 60, 60},
	}
}

// rulers returns rulers of one stick and of more, in all orders.
func rulers() [][]int {
	lengths := []int{1, 2, 3, 4, 5, 7, 59, 60}
	return slices.Concat(oneStick(), listsOf(lengths, 2), listsOf(lengths, 3), listsOf([]int{1, 2, 3, 5, 60}, 4), longRulers())
}

// noRulers returns lists that are no rulers, each for one reason.
func noRulers() [][]int {
	tooLong := slices.Repeat([]int{1}, 10)
	return slices.Concat(slices.DeleteFunc(someLists(), isRuler), [][]int{
		tooLong,
		slices.Repeat([]int{60}, 10),
		{9, 8, 7, 6, 5, 4, 3, 2, 1, 1},
		{60, 60, 60, 60, 60, 60, 60, 60, 61},
		{61, 60, 60, 60, 60, 60, 60, 60, 60},
		{0, 1, 1, 1, 1, 1, 1, 1, 1},
		{1, 1, 1, 1, 1, 1, 1, 1, 0},
		{5, -3, 4},
		make([]int, 1000),
		slices.Repeat([]int{7}, 1000),
	})
}

// foldCase is a ruler and what is told of it.
type foldCase struct {
	ruler              []int
	ends               []int
	ways, span, greedy int
	best               string
}

// foldCases are rulers of one stick, of two and of more.
func foldCases() []foldCase {
	return []foldCase{
		{[]int{1}, []int{1}, 0, 1, 1, "r"},
		{[]int{7}, []int{7}, 0, 7, 7, "r"},
		{[]int{60}, []int{60}, 0, 60, 60, "r"},
		{[]int{1, 1}, []int{0, 2}, 2, 1, 1, "rl"},
		{[]int{2, 3}, []int{1, 5}, 0, 3, 3, "rl"},
		{[]int{3, 2}, []int{1, 5}, 0, 3, 3, "rl"},
		{[]int{1, 60}, []int{59, 61}, 0, 60, 60, "rl"},
		{[]int{60, 60}, []int{0, 120}, 2, 60, 60, "rl"},
		{[]int{1, 1, 1}, []int{1, 3}, 0, 1, 1, "rlr"},
		{[]int{1, 2, 3}, []int{0, 2, 4, 6}, 2, 3, 3, "rrl"},
		{[]int{1, 2, 4}, []int{1, 3, 5, 7}, 0, 4, 4, "rrl"},
		{[]int{3, 4, 5}, []int{2, 4, 6, 12}, 0, 5, 5, "rlr"},
		{[]int{5, 3, 4}, []int{2, 4, 6, 12}, 0, 6, 7, "rlr"},
		{[]int{60, 59, 60}, []int{59, 61, 179}, 0, 61, 119, "rlr"},
		{[]int{2, 3, 5, 1}, []int{1, 3, 5, 7, 9, 11}, 0, 5, 5, "rrlr"},
		{[]int{1, 1, 1, 1, 1, 1, 1, 1, 1}, []int{1, 3, 5, 7, 9}, 0, 1, 1, "rlrlrlrlr"},
		{[]int{60, 60, 60, 60, 60, 60, 60, 60, 60}, []int{60, 180, 300, 420, 540}, 0, 60, 60, "rlrlrlrlr"},
	}
}

// Promise 41.

func TestPromise41FoldEnds(t *testing.T) {
	for _, a := range rulers() {
		ends, ok := impl.FoldEnds(a)
		wantList(t, "FoldEnds", ends, ok, lastPlacesOf(a))
		back, okBack := impl.FoldBack(a)
		endsBack, okEnds := impl.FoldEnds(back)
		wantList(t, "FoldEnds of FoldBack", endsBack, okBack && okEnds, ends)
		if len(ends) == 0 || ends[len(ends)-1] != sumOf(a) {
			t.Errorf("FoldEnds of %v is %v, whose last number is not the sum", a, ends)
		}
		for i, end := range ends {
			if end < 0 || i > 0 && end <= ends[i-1] || (sumOf(a)-end)%2 != 0 {
				t.Errorf("FoldEnds of %v is %v, where %d is not as told", a, ends, end)
			}
		}
	}
}

func TestFoldEndsEdges(t *testing.T) {
	for _, c := range foldCases() {
		ends, ok := impl.FoldEnds(c.ruler)
		wantList(t, "FoldEnds", ends, ok, c.ends)
	}
	for _, a := range oneStick() {
		ends, ok := impl.FoldEnds(a)
		wantList(t, "FoldEnds of one stick", ends, ok, a)
	}
	for _, a := range noRulers() {
		ends, ok := impl.FoldEnds(a)
		wantNoList(t, "FoldEnds", ends, ok)
	}
}

// Promise 42.

func TestPromise42FoldNear(t *testing.T) {
	for _, a := range rulers() {
		near, ok := impl.FoldNear(a)
		wantNumber(t, "FoldNear", near, ok, lastPlacesOf(a)[0])
		ends, okEnds := impl.FoldEnds(a)
		ways, okWays := impl.FoldWays(a)
		if !okEnds || ends[0] != near || near > slices.Max(a) {
			t.Errorf("FoldNear of %v is %d, FoldEnds %v", a, near, ends)
		}
		if !okWays || (near == 0) != (ways != 0) {
			t.Errorf("FoldNear of %v is %d, FoldWays %d", a, near, ways)
		}
	}
}

func TestFoldNearEdges(t *testing.T) {
	for _, c := range foldCases() {
		near, ok := impl.FoldNear(c.ruler)
		wantNumber(t, "FoldNear", near, ok, c.ends[0])
	}
	for _, a := range oneStick() {
		near, ok := impl.FoldNear(a)
		wantNumber(t, "FoldNear of one stick", near, ok, a[0])
	}
	for _, a := range noRulers() {
		near, ok := impl.FoldNear(a)
		wantNoNumber(t, "FoldNear", near, ok)
	}
}

// Promise 43.

func TestPromise43FoldWays(t *testing.T) {
	for _, a := range rulers() {
		ways, ok := impl.FoldWays(a)
		wantNumber(t, "FoldWays", ways, ok, lastEndsOf(a)[0])
		back, okBack := impl.FoldBack(a)
		waysBack, okWays := impl.FoldWays(back)
		wantNumber(t, "FoldWays of FoldBack", waysBack, okBack && okWays, ways)
		if ways%2 != 0 || ways != 0 && sumOf(a)%2 != 0 {
			t.Errorf("FoldWays of %v is %d", a, ways)
		}
	}
}

func TestFoldWaysEdges(t *testing.T) {
	more := []foldCase{
		{ruler: []int{1, 1, 1, 1}, ways: 6},
		{ruler: []int{1, 1, 1, 1, 1, 1, 1, 1}, ways: 70},
		{ruler: []int{8, 1, 1, 1, 1, 1, 1, 1, 1}, ways: 2},
		{ruler: []int{34, 1, 21, 2, 13, 3, 8, 5, 1}, ways: 8},
		{ruler: []int{2, 1, 1, 1, 1, 1, 1, 1, 1}, ways: 112},
	}
	for _, c := range slices.Concat(foldCases(), more) {
		ways, ok := impl.FoldWays(c.ruler)
		wantNumber(t, "FoldWays", ways, ok, c.ways)
	}
	for _, a := range oneStick() {
		ways, ok := impl.FoldWays(a)
		wantNumber(t, "FoldWays of one stick", ways, ok, 0)
	}
	for _, a := range noRulers() {
		ways, ok := impl.FoldWays(a)
		wantNoNumber(t, "FoldWays", ways, ok)
	}
}

// Promise 44.

func TestPromise44FoldSpan(t *testing.T) {
	for _, a := range rulers() {
		span, ok := impl.FoldSpan(a)
		wantNumber(t, "FoldSpan", span, ok, leastSpanOf(a))
		fold, okCase := impl.FoldCase(a)
		wantNumber(t, "FoldCase as FoldSpan", fold, okCase, span)
		back, okBack := impl.FoldBack(a)
		spanBack, okSpan := impl.FoldSpan(back)
		wantNumber(t, "FoldSpan of FoldBack", spanBack, okBack && okSpan, span)
		if span < slices.Max(a) || span >= 2*slices.Max(a) {
			t.Errorf("FoldSpan of %v is %d", a, span)
		}
	}
}

func TestFoldSpanEdges(t *testing.T) {
	for _, c := range foldCases() {
		span, ok := impl.FoldSpan(c.ruler)
		wantNumber(t, "FoldSpan", span, ok, c.span)
	}
	for _, a := range oneStick() {
		span, ok := impl.FoldSpan(a)
		wantNumber(t, "FoldSpan of one stick", span, ok, a[0])
	}
	for _, a := range noRulers() {
		span, ok := impl.FoldSpan(a)
		wantNoNumber(t, "FoldSpan", span, ok)
	}
}

// Promise 45.

func TestPromise45FoldFits(t *testing.T) {
	for _, a := range slices.Concat(oneStick(), listsOf([]int{1, 2, 3, 5, 8, 60}, 3), longRulers()) {
		least, ok := impl.FoldSpan(a)
		wantNumber(t, "FoldSpan", least, ok, leastSpanOf(a))
		for span := -2; span <= 2*lengthMax+1; span++ {
			got := impl.FoldFits(a, span)
			if got != (span >= leastSpanOf(a)) {
				t.Errorf("FoldFits of %v and %d returned %v", a, span, got)
			}
			if got && (!impl.FoldFits(a, span+1) || least > span) {
				t.Errorf("FoldFits of %v and %d holds, not for one more, or FoldSpan is %d", a, span, least)
			}
		}
	}
}

func TestFoldFitsEdges(t *testing.T) {
	for _, c := range foldCases() {
		for _, span := range []int{math.MinInt, -c.span, -1, 0, c.span - 1} {
			if impl.FoldFits(c.ruler, span) {
				t.Errorf("FoldFits of %v and %d holds", c.ruler, span)
			}
		}
		for _, span := range []int{c.span, c.span + 1, 539, 540, 541, 1000000, math.MaxInt32, math.MaxInt - 1, math.MaxInt} {
			if !impl.FoldFits(c.ruler, span) {
				t.Errorf("FoldFits of %v and %d does not hold", c.ruler, span)
			}
		}
	}
	for _, a := range oneStick() {
		if impl.FoldFits(a, a[0]-1) || !impl.FoldFits(a, a[0]) || impl.FoldFits(a, -a[0]) {
			t.Errorf("FoldFits of %v told another answer", a)
		}
	}
	for _, a := range noRulers() {
		for _, span := range []int{math.MinInt, -1, 0, 1, 60, 120, 540, math.MaxInt} {
			if impl.FoldFits(a, span) {
				t.Errorf("FoldFits of %v and %d holds", a, span)
			}
		}
	}
}

// Promise 46.

func TestPromise46FoldCase(t *testing.T) {
	for _, a := range rulers() {
		span, ok := impl.FoldCase(a)
		wantNumber(t, "FoldCase", span, ok, leastSpanOf(a))
		if !impl.FoldFits(a, span) || impl.FoldFits(a, span-1) {
			t.Errorf("FoldCase of %v is %d, not the least for which FoldFits holds", a, span)
		}
	}
}

func TestFoldCaseEdges(t *testing.T) {
	for _, c := range foldCases() {
		span, ok := impl.FoldCase(c.ruler)
		wantNumber(t, "FoldCase", span, ok, c.span)
	}
	for _, a := range oneStick() {
		span, ok := impl.FoldCase(a)
		wantNumber(t, "FoldCase of one stick", span, ok, a[0])
	}
	for _, a := range noRulers() {
		span, ok := impl.FoldCase(a)
		wantNoNumber(t, "FoldCase", span, ok)
	}
}

// Promise 47.

func TestPromise47FoldGreedy(t *testing.T) {
	for _, a := range rulers() {
		greedy, ok := impl.FoldGreedy(a)
		wantNumber(t, "FoldGreedy", greedy, ok, greedySpanOf(a))
		span, okSpan := impl.FoldSpan(a)
		if !okSpan || greedy < span || greedy >= 2*slices.Max(a) {
			t.Errorf("FoldGreedy of %v is %d, FoldSpan %d", a, greedy, span)
		}
	}
}

func TestFoldGreedyEdges(t *testing.T) {
	more := []foldCase{
		{ruler: []int{3, 2, 5}, greedy: 5},
		{ruler: []int{3, 3, 1, 5}, greedy: 7},
		{ruler: []int{60, 59, 60, 60, 1}, greedy: 119},
		{ruler: []int{42, 35, 1, 57, 25}, greedy: 91},
	}
	for _, c := range slices.Concat(foldCases(), more) {
		greedy, ok := impl.FoldGreedy(c.ruler)
		wantNumber(t, "FoldGreedy", greedy, ok, c.greedy)
	}
	for _, a := range oneStick() {
		greedy, ok := impl.FoldGreedy(a)
		wantNumber(t, "FoldGreedy of one stick", greedy, ok, a[0])
	}
	for _, a := range noRulers() {
		greedy, ok := impl.FoldGreedy(a)
		wantNoNumber(t, "FoldGreedy", greedy, ok)
	}
}

// FoldBest, of which a promise about proofs tells later.

func TestFoldBest(t *testing.T) {
	for _, a := range rulers() {
		best, ok := impl.FoldBest(a)
		wantWord(t, "FoldBest", best, ok, bestSidesOf(a))
		if len(best) != len(a) || strings.Trim(best, "rl") != "" || best[0] != 'r' {
			t.Errorf("FoldBest of %v is %q", a, best)
			continue
		}
		span, ok := impl.FoldSpan(a)
		wantNumber(t, "FoldSpan as the span of FoldBest", span, ok, spanOf(a, best))
	}
}

func TestFoldBestEdges(t *testing.T) {
	more := []foldCase{
		{ruler: []int{48, 36, 44, 27, 54}, best: "rlrll"},
		{ruler: []int{1, 2, 4, 8, 16, 32, 60}, best: "rrrrrlr"},
		{ruler: []int{1, 1, 2, 3, 5, 8, 13, 21, 34}, best: "rrrrrrlrl"},
		{ruler: []int{52, 53, 54, 55, 56, 57, 58, 59, 60}, best: "rlrlrlrlr"},
	}
	for _, c := range slices.Concat(foldCases(), more) {
		best, ok := impl.FoldBest(c.ruler)
		wantWord(t, "FoldBest", best, ok, c.best)
	}
	for _, a := range oneStick() {
		best, ok := impl.FoldBest(a)
		wantWord(t, "FoldBest of one stick", best, ok, "r")
	}
	for _, a := range noRulers() {
		best, ok := impl.FoldBest(a)
		wantNoWord(t, "FoldBest", best, ok)
	}
}

// Promise 48.

func TestPromise48FoldBack(t *testing.T) {
	for _, a := range rulers() {
		back, ok := impl.FoldBack(a)
		wantList(t, "FoldBack", back, ok, backOf(a))
		again, ok := impl.FoldBack(back)
		wantList(t, "FoldBack of FoldBack", again, ok, a)
		near, okNear := impl.FoldNear(a)
		nearBack, okBack := impl.FoldNear(back)
		wantNumber(t, "FoldNear of FoldBack", nearBack, okNear && okBack, near)
	}
}

func TestFoldBackEdges(t *testing.T) {
	cases := []struct {
		ruler, want []int
	}{
		{[]int{1}, []int{1}},
		{[]int{60}, []int{60}},
		{[]int{1, 60}, []int{60, 1}},
		{[]int{5, 3, 4}, []int{4, 3, 5}},
		{[]int{1, 2, 3, 4}, []int{4, 3, 2, 1}},
		{[]int{9, 1, 8, 2, 7, 3, 6, 4, 5}, []int{5, 4, 6, 3, 7, 2, 8, 1, 9}},
	}
	for _, c := range cases {
		back, ok := impl.FoldBack(c.ruler)
		wantList(t, "FoldBack", back, ok, c.want)
	}
	for _, a := range oneStick() {
		back, ok := impl.FoldBack(a)
		wantList(t, "FoldBack of one stick", back, ok, a)
	}
	for _, a := range noRulers() {
		back, ok := impl.FoldBack(a)
		wantNoList(t, "FoldBack", back, ok)
	}
}

// The general rules: no argument changes, no memory is shared, no goroutine is left.

func TestFoldMemory(t *testing.T) {
	for _, a := range slices.Concat(oneStick(), longRulers(), noRulers()) {
		wantOwn(t, "FoldEnds", a, func(a []int) []int {
			ends, _ := impl.FoldEnds(a)
			return ends
		})
		wantOwn(t, "FoldBack", a, func(a []int) []int {
			back, _ := impl.FoldBack(a)
			return back
		})
		wantOwn(t, "FoldNear and the others", a, func(a []int) []int {
			impl.FoldNear(a)
			impl.FoldWays(a)
			impl.FoldSpan(a)
			impl.FoldFits(a, 60)
			impl.FoldCase(a)
			impl.FoldGreedy(a)
			impl.FoldBest(a)
			return nil
		})
	}
}

func TestFoldAtOnce(t *testing.T) {
	for _, threads := range []int{1, 2, 8} {
		before := runtime.GOMAXPROCS(threads)
		var calls sync.WaitGroup
		for _, a := range longRulers() {
			for range 8 {
				calls.Go(func() {
					best, ok := impl.FoldBest(a)
					wantWord(t, "FoldBest, many at once,", best, ok, bestSidesOf(a))
					ends, ok := impl.FoldEnds(a)
					wantList(t, "FoldEnds, many at once,", ends, ok, lastPlacesOf(a))
				})
			}
		}
		calls.Wait()
		runtime.GOMAXPROCS(before)
	}
}

func TestFoldLeavesNoGoroutine(t *testing.T) {
	before := runtime.NumGoroutine()
	for _, a := range slices.Concat(oneStick(), longRulers(), noRulers()) {
		impl.FoldEnds(a)
		impl.FoldNear(a)
		impl.FoldWays(a)
		impl.FoldSpan(a)
		impl.FoldBest(a)
	}
	// A joined goroutine is counted until it is gone, which may take a moment.
	for range 1000000 {
		if runtime.NumGoroutine() <= before {
			return
		}
		runtime.Gosched()
	}
	t.Errorf("%d goroutines more than before are left", runtime.NumGoroutine()-before)
}
