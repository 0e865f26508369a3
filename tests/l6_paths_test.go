package tests

import (
	"math"
	"slices"
	"testing"

	"loop.example/closingsticks/impl"
)

// The limits are written out here, so that a changed constant is noticed.
const (
	stepMax  = 9
	stepsMin = 3
	stepsMax = 8
)

// isPath tells by the words of the document whether a list is a path.
func isPath(p [][]int) bool {
	if len(p) < stepsMin || len(p) > stepsMax {
		return false
	}
	x, y := 0, 0
	for _, s := range p {
		if len(s) != 2 || slices.Min(s) < -stepMax || slices.Max(s) > stepMax || s[0] == 0 && s[1] == 0 {
			return false
		}
		x, y = x+s[0], y+s[1]
	}
	return x == 0 && y == 0
}

// cornersOf returns where the steps of a path begin.
func cornersOf(p [][]int) [][]int {
	all := [][]int{{0, 0}}
	for i, s := range p[:len(p)-1] {
		all = append(all, []int{all[i][0] + s[0], all[i][1] + s[1]})
	}
	return all
}

// areaOf returns twice the area of a path, told by the pairs of its steps.
func areaOf(p [][]int) int {
	twice := 0
	for j := range p {
		for i := range j {
			twice += p[i][0]*p[j][1] - p[i][1]*p[j][0]
		}
	}
	return twice
}

// pathBackOf returns a path gone backwards.
func pathBackOf(p [][]int) [][]int {
	var back [][]int
	for i := range p {
		s := p[len(p)-1-i]
		back = append(back, []int{-s[0], -s[1]})
	}
	return back
}

// pathTurnOf returns a path turned by a quarter to the left.
func pathTurnOf(p [][]int) [][]int {
	var turned [][]int
	for _, s := range p {
		turned = append(turned, []int{-s[1], s[0]})
	}
	return turned
}

// pathBeginOf returns a path that begins with the step at a place.
func pathBeginOf(p [][]int, at int) [][]int {
	return slices.Concat(p[at:], p[:at])
}

// isConvex tells by the angles of its turns whether a path is convex.
func isConvex(p [][]int) bool {
	total := 0.0
	for i, s := range p {
		next := p[(i+1)%len(p)]
		cross := float64(s[0]*next[1] - s[1]*next[0])
		dot := float64(s[0]*next[0] + s[1]*next[1])
		turn := math.Atan2(cross, dot)
		// The least angle between two steps is far greater than this.
		if turn < -0.001 || turn > math.Pi-0.001 {
			return false
		}
		total += turn
	}
	return math.Abs(total-2*math.Pi) < 0.001
}

// boxOf returns how far the corners of a path are apart, in x and in y.
func boxOf(p [][]int) [2]int {
	var xs, ys []int
	for _, c := range cornersOf(p) {
		xs, ys = append(xs, c[0]), append(ys, c[1])
	}
	return [2]int{slices.Max(xs) - slices.Min(xs), slices.Max(ys) - slices.Min(ys)}
}

// rimOf returns how often the steps of a path go through points with whole numbers, by
// asking all points near each step.
func rimOf(p [][]int) int {
	points := 0
	for _, s := range p {
		for x := min(0, s[0]); x <= max(0, s[0]); x++ {
			for y := min(0, s[1]); y <= max(0, s[1]); y++ {
				if x*s[1] == y*s[0] && (x != 0 || y != 0) {
					points++
				}
			}
		}
	}
	return points
}

// onRim tells whether a point lies on a step of a path.
func onRim(p [][]int, x int, y int) bool {
	for i, c := range cornersOf(p) {
		s := p[i]
		dx, dy := x-c[0], y-c[1]
		along := dx*s[0] + dy*s[1]
		if dx*s[1] == dy*s[0] && along >= 0 && along <= s[0]*s[0]+s[1]*s[1] {
			return true
		}
	}
	return false
}

// crossings returns how many steps of a path a line from a point to the right crosses.
func crossings(p [][]int, x int, y int) int {
	many := 0
	for i, c := range cornersOf(p) {
		s := p[i]
		if (c[1] <= y) == (c[1]+s[1] <= y) {
			continue
		}
		// The step is crossed at c[0] + s[0] * (y - c[1]) / s[1].
		at := (c[0]-x)*s[1] + s[0]*(y-c[1])
		if at > 0 == (s[1] > 0) && at != 0 {
			many++
		}
	}
	return many
}

// insideOf returns the number of points with whole numbers inside a convex path, told
// by crossings.
func insideOf(p [][]int) int {
	inside := 0
	for x := -36; x <= 36; x++ {
		for y := -36; y <= 36; y++ {
			if crossings(p, x, y)%2 == 1 && !onRim(p, x, y) {
				inside++
			}
		}
	}
	return inside
}

// closed returns a list of steps with one more step, with which it ends where it begins.
func closed(steps [][]int) [][]int {
	x, y := 0, 0
	for _, s := range steps {
		x, y = x+s[0], y+s[1]
	}
	return append(slices.Clone(steps), []int{-x, -y})
}

// stepsOf returns all steps with numbers from -most to most.
func stepsOf(most int) [][]int {
	var all [][]int
	for x := -most; x <= most; x++ {
		for y := -most; y <= most; y++ {
			if x != 0 || y != 0 {
				all = append(all, []int{x, y})
			}
		}
	}
	return all
}

// allPaths returns all paths of a number of steps whose steps, but for the last one, have
// numbers from -most to most.
func allPaths(steps int, most int) [][][]int {
	begun := [][][]int{nil}
	for range steps - 1 {
		var next [][][]int
		for _, b := range begun {
			for _, s := range stepsOf(most) {
				next = append(next, append(slices.Clone(b), s))
			}
		}
		begun = next
	}
	var all [][][]int
	for _, b := range begun {
		if p := closed(b); isPath(p) {
			all = append(all, p)
		}
	}
	return all
}

// mixedPaths returns paths of 3 to 8 steps with numbers of all sizes, always the same.
func mixedPaths() [][][]int {
	state := uint64(6)
	number := func() int {
		state = state*6364136223846793005 + 1442695040888963407
		return int(state>>33)%19 - stepMax
	}
	var all [][][]int
	for len(all) < 3000 {
		var steps [][]int
		for range stepsMin - 1 + len(all)%6 {
			steps = append(steps, []int{number(), number()})
		}
		if p := closed(steps); isPath(p) {
			all = append(all, p)
		}
	}
	return all
}

// wound returns the steps of a path by their directions, from leftwards on to the left.
func wound(p [][]int) [][]int {
	direction := func(s []int) float64 { return math.Atan2(float64(s[1]), float64(s[0])) }
	sorted := slices.Clone(p)
	slices.SortStableFunc(sorted, func(s []int, t []int) int {
		d := direction(s) - direction(t)
		switch {
		case d < -0.001:
			return -1
		case d > 0.001:
			return 1
		}
		return 0
	})
	return sorted
}

// woundPaths returns paths with steps by their directions, which begin with any of them.
func woundPaths() [][][]int {
	var all [][][]int
	for i, p := range mixedPaths() {
		all = append(all, pathBeginOf(wound(p), i/6%len(p)))
	}
	return all
}

// linePaths returns paths whose steps lie on one line.
func linePaths() [][][]int {
	var all [][][]int
	for _, d := range [][]int{{1, 0}, {0, 1}, {-1, 0}, {0, -1}, {1, 1}, {-1, 1}, {2, 1}, {-1, -2}, {3, -2}} {
		for _, times := range [][]int{
			{1, 1, -2}, {1, -2, 1}, {2, -1, -1}, {1, 2, -3}, {3, -1, -2},
			{1, -1, 1, -1}, {1, 1, -1, -1}, {1, -1, -1, 1}, {2, 1, -1, -2},
			{1, 1, 1, -3}, {1, 1, 1, -1, -1, -1}, {1, -1, 1, -1, 1, -1},
			{1, 1, 1, 1, -1, -1, -1, -1}, {1, -1, 1, -1, 1, -1, 1, -1}, {2, -1, 2, -1, -2, 1, -2, 1},
		} {
			var p [][]int
			for _, k := range times {
				p = append(p, []int{k * d[0], k * d[1]})
			}
			all = append(all, p)
		}
	}
	return all
}

// notConvex stands for the number of points inside a path that is not convex.
const notConvex = -1

// pathCase is a path and what is told of it.
type pathCase struct {
	path   [][]int
	area   int
	box    [2]int
	rim    int
	inside int
}

// pathCases are convex paths and paths that just are not.
func pathCases() []pathCase {
	return []pathCase{
		// Triangles and squares, round to the left and to the right.
		{[][]int{{1, 0}, {0, 1}, {-1, -1}}, 1, [2]int{1, 1}, 3, 0},
		{[][]int{{1, 1}, {0, -1}, {-1, 0}}, -1, [2]int{1, 1}, 3, notConvex},
		{[][]int{{9, 0}, {0, 9}, {-9, -9}}, 81, [2]int{9, 9}, 27, 28},
		{[][]int{{9, 8}, {-1, 1}, {-8, -9}}, 17, [2]int{9, 9}, 3, 8},
		{[][]int{{2, 0}, {0, 2}, {-2, 0}, {0, -2}}, 8, [2]int{2, 2}, 8, 1},
		{[][]int{{0, 2}, {2, 0}, {0, -2}, {-2, 0}}, -8, [2]int{2, 2}, 8, notConvex},
		{[][]int{{9, 0}, {0, 9}, {-9, 0}, {0, -9}}, 162, [2]int{9, 9}, 36, 64},
		{[][]int{{2, 1}, {-1, 2}, {-2, -1}, {1, -2}}, 10, [2]int{3, 3}, 4, 4},
		// Straight on, at the first step, between others and at the last one.
		{[][]int{{1, 0}, {1, 0}, {0, 2}, {-2, 0}, {0, -2}}, 8, [2]int{2, 2}, 8, 1},
		{[][]int{{1, 0}, {0, 2}, {-2, 0}, {0, -2}, {1, 0}}, 8, [2]int{2, 2}, 8, 1},
		{[][]int{{-1, 0}, {0, -2}, {2, 0}, {0, 2}, {-1, 0}}, 8, [2]int{2, 2}, 8, 1},
		{[][]int{{2, 4}, {-2, -1}, {-2, -1}, {2, -2}}, 12, [2]int{4, 4}, 6, 4},
		{[][]int{{9, 0}, {9, 0}, {0, 9}, {0, 9}, {-9, 0}, {-9, 0}, {0, -9}, {0, -9}}, 648, [2]int{18, 18}, 72, 289},
		{[][]int{{9, 8}, {9, 8}, {9, 8}, {8, 9}, {-9, -8}, {-9, -8}, {-9, -8}, {-8, -9}}, 102, [2]int{35, 33}, 8, 48},
		{[][]int{{2, -1}, {2, 1}, {1, 2}, {-1, 2}, {-2, 1}, {-2, -1}, {-1, -2}, {1, -2}}, 48, [2]int{6, 6}, 8, 21},
		// Half a turn between two steps, and from the last one to the first one.
		{[][]int{{2, 0}, {0, 2}, {-3, 0}, {1, 0}, {0, -2}}, 8, [2]int{3, 2}, 10, notConvex},
		{[][]int{{-1, 0}, {3, 0}, {0, 2}, {-2, 0}, {0, -2}}, 8, [2]int{3, 2}, 10, notConvex},
		{[][]int{{3, 0}, {0, 2}, {-2, 0}, {0, -2}, {-1, 0}}, 8, [2]int{3, 2}, 10, notConvex},
		{[][]int{{1, 0}, {-1, 0}, {0, 1}, {0, -1}}, 0, [2]int{1, 1}, 4, notConvex},
		{[][]int{{1, 0}, {0, 1}, {0, -1}, {-1, 0}}, 0, [2]int{1, 1}, 4, notConvex},
		// A turn to the right, within a path that goes round to the left once.
		{[][]int{{4, 1}, {-3, 1}, {-1, 3}, {0, -5}}, 12, [2]int{4, 5}, 8, notConvex},
		{[][]int{{2, 0}, {0, 1}, {-1, 0}, {0, 1}, {-1, 0}, {0, -2}}, 6, [2]int{2, 2}, 8, notConvex},
		// Two full turns, and none.
		{[][]int{{1, 0}, {0, 1}, {-1, -1}, {1, 0}, {0, 1}, {-1, -1}}, 2, [2]int{1, 1}, 6, notConvex},
		{[][]int{{1, 0}, {0, 1}, {-1, 0}, {0, -1}, {1, 0}, {0, 1}, {-1, 0}, {0, -1}}, 4, [2]int{1, 1}, 8, notConvex},
		{[][]int{{4, 0}, {-3, 3}, {1, -4}, {1, 4}, {-3, -3}}, 14, [2]int{4, 4}, 12, notConvex},
		{[][]int{{1, 0}, {0, 1}, {-1, 0}, {0, -1}, {0, -1}, {-1, 0}, {0, 1}, {1, 0}}, 0, [2]int{2, 2}, 8, notConvex},
		// Two crossed loops, of which one goes round to the right.
		{[][]int{{2, 2}, {0, -2}, {-2, 2}, {0, -2}}, 0, [2]int{2, 2}, 8, notConvex},
		// Steps on one line.
		{[][]int{{1, 0}, {1, 0}, {-2, 0}}, 0, [2]int{2, 0}, 4, notConvex},
		{[][]int{{0, 9}, {0, -9}, {0, 9}, {0, -9}}, 0, [2]int{0, 9}, 36, notConvex},
		{[][]int{{4, -2}, {-2, 1}, {-2, 1}}, 0, [2]int{4, 2}, 4, notConvex},
		{[][]int{{9, 9}, {9, 9}, {9, 9}, {9, 9}, {-9, -9}, {-9, -9}, {-9, -9}, {-9, -9}}, 0, [2]int{36, 36}, 72, notConvex},
	}
}

// paths returns paths of all numbers of steps: all small ones, greater ones, steps by
// their directions, and steps on one line.
func paths() [][][]int {
	all := slices.Concat(allPaths(3, 3), allPaths(4, 1), allPaths(5, 1), mixedPaths(), woundPaths(), linePaths())
	for _, c := range pathCases() {
		all = append(all, c.path)
	}
	return all
}

// convexPaths returns those of paths that are convex.
func convexPaths() [][][]int {
	return slices.DeleteFunc(paths(), func(p [][]int) bool { return !isConvex(p) })
}

// noPaths returns lists that are no paths, each for one reason.
func noPaths() [][][]int {
	return [][][]int{
		nil,
		{},
		{{}},
		{nil, nil, nil},
		{{1, 0}},
		{{0, 0}},
		{{1, 0}, {-1, 0}},
		{{0, 0}, {0, 0}, {0, 0}},
		{{1, 0}, {-1, 0}, {0, 0}},
		{{0, 0}, {0, 1}, {-1, 0}, {1, -1}},
		{{2, 0}, {0, 2}, {0, 0}, {-2, 0}, {0, -2}},
		{{1, 0}, {0, 1}, {-1, 0}},
		{{1, 0}, {0, 1}, {0, -1}},
		{{1, 0}, {0, 1}, {1, 1}},
		{{2, 0}, {0, 2}, {-2, 0}, {0, -1}},
		{{2, 0}, {0, 2}, {-1, 0}, {0, -2}},
		{{1, 0}, {0, 1}, {-1}},
		{{1}, {0, 1}, {-1, -1}},
		{{1}, {1}, {-2}},
		{{1, 0}, {}, {-1, 0}},
		{{1, 0}, nil, {0, 1}, {-1, -1}},
		{{1, 0, 0}, {0, 1}, {-1, -1}},
		{{1, 0}, {0, 1}, {-1, -1, 0}},
		{{1, 0, 0}, {0, 1, 0}, {-1, -1, 0}},
		{{10, 0}, {-5, 0}, {-5, 0}},
		{{-10, 0}, {5, 1}, {5, -1}},
		{{0, 10}, {1, -5}, {-1, -5}},
		{{1, -10}, {-1, 5}, {0, 5}},
		{{5, 0}, {5, 1}, {-10, -1}},
		{{0, 5}, {0, 5}, {0, -10}},
		{{9, 9}, {1, 1}, {-10, -10}},
		{{math.MinInt, 0}, {math.MinInt, 0}, {0, 1}, {0, -1}},
		{{math.MaxInt, 0}, {1, 0}, {math.MinInt, 0}},
		{{0, math.MaxInt}, {1, 1}, {-1, math.MinInt}},
		{{math.MaxInt, 1}, {math.MaxInt, -1}, {2, 0}},
		{{math.MinInt, math.MinInt}, {math.MinInt, math.MinInt}, {9, 9}, {-9, -9}},
		{{1, 0}, {1, 0}, {1, 0}, {1, 0}, {-1, 0}, {-1, 0}, {-1, 0}, {-2, 0}, {1, 0}},
		{{3, 0}, {3, 0}, {3, 0}, {0, 3}, {0, 3}, {0, 3}, {-3, -3}, {-3, -3}, {-3, -3}},
		{{1, 0}, {-1, 0}, {1, 0}, {-1, 0}, {1, 0}, {-1, 0}, {1, 0}, {-1, 0}, {1, 0}, {-1, 0}},
		make([][]int, 4),
		make([][]int, 1000),
		slices.Repeat([][]int{{1, 0}, {-1, 0}}, 500),
	}
}

// mustPath returns the result of a function that makes a path.
func mustPath(t *testing.T, name string, p [][]int, call func([][]int) ([][]int, bool)) [][]int {
	t.Helper()
	made, ok := call(p)
	if !ok {
		t.Fatalf("%s of %v failed", name, p)
	}
	return made
}

// wantFailing checks that a function that makes lists fails for all that are no paths.
func wantFailing(t *testing.T, name string, call func([][]int) ([][]int, bool)) {
	t.Helper()
	for _, p := range noPaths() {
		got, ok := call(p)
		wantNoLists(t, name, got, ok)
	}
}

// wantNumberless checks that a function that returns a number fails for lists.
func wantNumberless(t *testing.T, name string, lists [][][]int, call func([][]int) (int, bool)) {
	t.Helper()
	for _, p := range lists {
		got, ok := call(p)
		if ok || got != 0 {
			t.Errorf("%s of %v returned %d, %v instead of 0, false", name, p, got, ok)
		}
	}
}

// Promise 49.

func TestPromise49PathIn(t *testing.T) {
	for _, p := range paths() {
		if !impl.PathIn(p) {
			t.Fatalf("PathIn of %v does not hold", p)
		}
		begun := mustPath(t, "PathBegin", p, func(p [][]int) ([][]int, bool) { return impl.PathBegin(p, 1) })
		back := mustPath(t, "PathBack", p, impl.PathBack)
		if !impl.PathIn(begun) || !impl.PathIn(back) {
			t.Errorf("PathIn of %v holds, but not for %v and %v", p, begun, back)
		}
	}
}

func TestPathInEdges(t *testing.T) {
	for _, p := range noPaths() {
		if isPath(p) || impl.PathIn(p) {
			t.Errorf("PathIn of %v holds", p)
		}
	}
	// All lists of three steps, or what might be one, of numbers at the limits.
	numbers := []int{-10, -9, -1, 0, 1, 9, 10}
	for _, list := range listsOf(numbers, 4) {
		for _, p := range [][][]int{
			closed([][]int{list[:2], list[2:]}),
			closed([][]int{list[:2], list[2:], {0, -9}}),
			{list[:2], list[2:], {0, 9}},
			{list[:2], list[2:]},
		} {
			if got := impl.PathIn(p); got != isPath(p) {
				t.Errorf("PathIn of %v returned %v", p, got)
			}
		}
	}
	// Any number of steps that ends where it begins.
	for steps := range 12 {
		p := slices.Concat([][]int{{1, 1}, {-1, 0}, {0, -1}}, slices.Repeat([][]int{{2, 3}, {-2, -3}}, steps))
		for _, q := range [][][]int{p, p[1:], p[3:]} {
			if got := impl.PathIn(q); got != isPath(q) {
				t.Errorf("PathIn of %v returned %v", q, got)
			}
		}
	}
}

// Promise 50.

func TestPromise50PathCorners(t *testing.T) {
	for _, p := range paths() {
		corners, ok := impl.PathCorners(p)
		wantLists(t, "PathCorners", corners, ok, cornersOf(p))
		if !slices.Equal(corners[0], []int{0, 0}) || len(corners) != len(p) {
			t.Errorf("PathCorners of %v is %v", p, corners)
		}
		for i, c := range corners {
			next := corners[(i+1)%len(corners)]
			if c[0]+p[i][0] != next[0] || c[1]+p[i][1] != next[1] {
				t.Errorf("PathCorners of %v is %v, where step %d does not lead", p, corners, i)
			}
		}
	}
}

func TestPathCornersEdges(t *testing.T) {
	cases := []struct {
		path, want [][]int
	}{
		{[][]int{{2, 0}, {0, 2}, {-2, 0}, {0, -2}}, [][]int{{0, 0}, {2, 0}, {2, 2}, {0, 2}}},
		{[][]int{{1, 0}, {1, 0}, {-2, 0}}, [][]int{{0, 0}, {1, 0}, {2, 0}}},
		{[][]int{{-9, 9}, {9, 0}, {0, -9}}, [][]int{{0, 0}, {-9, 9}, {0, 9}}},
		{[][]int{{0, -1}, {0, 1}, {3, 4}, {-3, -4}}, [][]int{{0, 0}, {0, -1}, {0, 0}, {3, 4}}},
		{
			[][]int{{9, 9}, {9, 9}, {9, 9}, {9, 9}, {-9, -9}, {-9, -9}, {-9, -9}, {-9, -9}},
			[][]int{{0, 0}, {9, 9}, {18, 18}, {27, 27}, {36, 36}, {27, 27}, {18, 18}, {9, 9}},
		},
	}
	for _, c := range cases {
		corners, ok := impl.PathCorners(c.path)
		wantLists(t, "PathCorners", corners, ok, c.want)
	}
	wantFailing(t, "PathCorners", impl.PathCorners)
}

// Promise 51.

func TestPromise51PathArea(t *testing.T) {
	for _, p := range paths() {
		area, ok := impl.PathArea(p)
		wantNumber(t, "PathArea", area, ok, areaOf(p))
		back, ok := impl.PathArea(mustPath(t, "PathBack", p, impl.PathBack))
		wantNumber(t, "PathArea of PathBack", back, ok, -area)
		turned, ok := impl.PathArea(mustPath(t, "PathTurn", p, impl.PathTurn))
		wantNumber(t, "PathArea of PathTurn", turned, ok, area)
		begun, ok := impl.PathArea(mustPath(t, "PathBegin", p, func(p [][]int) ([][]int, bool) { return impl.PathBegin(p, 2) }))
		wantNumber(t, "PathArea of PathBegin", begun, ok, area)
	}
}

func TestPathAreaEdges(t *testing.T) {
	for _, c := range pathCases() {
		area, ok := impl.PathArea(c.path)
		wantNumber(t, "PathArea", area, ok, c.area)
	}
	for _, p := range linePaths() {
		area, ok := impl.PathArea(p)
		wantNumber(t, "PathArea of steps on one line", area, ok, 0)
	}
	wantNumberless(t, "PathArea", noPaths(), impl.PathArea)
}

// Promise 52.

func TestPromise52PathBack(t *testing.T) {
	for _, p := range paths() {
		back, ok := impl.PathBack(p)
		wantLists(t, "PathBack", back, ok, pathBackOf(p))
		again, ok := impl.PathBack(back)
		wantLists(t, "PathBack of PathBack", again, ok, p)
		x, y, ok := impl.PathBox(p)
		xBack, yBack, okBack := impl.PathBox(back)
		wantPair(t, "PathBox of PathBack", xBack, yBack, ok && okBack, [2]int{x, y})
	}
}

func TestPathBackEdges(t *testing.T) {
	cases := []struct {
		path, want [][]int
	}{
		{[][]int{{2, 0}, {0, 3}, {-2, -3}}, [][]int{{2, 3}, {0, -3}, {-2, 0}}},
		{[][]int{{2, 0}, {0, 2}, {-2, 0}, {0, -2}}, [][]int{{0, 2}, {2, 0}, {0, -2}, {-2, 0}}},
		{[][]int{{1, 0}, {1, 0}, {-2, 0}}, [][]int{{2, 0}, {-1, 0}, {-1, 0}}},
		{[][]int{{9, -9}, {-9, 0}, {0, 9}}, [][]int{{0, -9}, {9, 0}, {-9, 9}}},
	}
	for _, c := range cases {
		back, ok := impl.PathBack(c.path)
		wantLists(t, "PathBack", back, ok, c.want)
	}
	wantFailing(t, "PathBack", impl.PathBack)
}

// Promise 53.

func TestPromise53PathTurn(t *testing.T) {
	for _, p := range paths() {
		turned, ok := impl.PathTurn(p)
		wantLists(t, "PathTurn", turned, ok, pathTurnOf(p))
		x, y, ok := impl.PathBox(p)
		xTurned, yTurned, okTurned := impl.PathBox(turned)
		wantPair(t, "PathBox of PathTurn", xTurned, yTurned, ok && okTurned, [2]int{y, x})
		for range 3 {
			turned = mustPath(t, "PathTurn", turned, impl.PathTurn)
		}
		wantLists(t, "PathTurn four times", turned, true, p)
	}
}

func TestPathTurnEdges(t *testing.T) {
	cases := []struct {
		path, want [][]int
	}{
		{[][]int{{2, 0}, {0, 3}, {-2, -3}}, [][]int{{0, 2}, {-3, 0}, {3, -2}}},
		{[][]int{{2, 0}, {0, 2}, {-2, 0}, {0, -2}}, [][]int{{0, 2}, {-2, 0}, {0, -2}, {2, 0}}},
		{[][]int{{1, 0}, {1, 0}, {-2, 0}}, [][]int{{0, 1}, {0, 1}, {0, -2}}},
		{[][]int{{9, -9}, {-9, 0}, {0, 9}}, [][]int{{9, 9}, {0, -9}, {-9, 0}}},
	}
	for _, c := range cases {
		turned, ok := impl.PathTurn(c.path)
		wantLists(t, "PathTurn", turned, ok, c.want)
	}
	wantFailing(t, "PathTurn", impl.PathTurn)
}

// Promise 54.

func TestPromise54PathBegin(t *testing.T) {
	for _, p := range paths() {
		same, ok := impl.PathBegin(p, 0)
		wantLists(t, "PathBegin of the place 0", same, ok, p)
		for at := range p {
			begun, ok := impl.PathBegin(p, at)
			wantLists(t, "PathBegin", begun, ok, pathBeginOf(p, at))
			if impl.PathConvex(begun) != impl.PathConvex(p) {
				t.Errorf("PathConvex of %v and %v is not the same", p, begun)
			}
			// The place 0 leaves all steps, and with all of them the path is itself.
			again, ok := impl.PathBegin(begun, (len(p)-at)%len(p))
			wantLists(t, "PathBegin of PathBegin", again, ok, p)
		}
	}
}

func TestPathBeginEdges(t *testing.T) {
	square := [][]int{{2, 0}, {0, 3}, {-2, 0}, {0, -3}}
	last, ok := impl.PathBegin(square, 3)
	wantLists(t, "PathBegin of the last place", last, ok, [][]int{{0, -3}, {2, 0}, {0, 3}, {-2, 0}})
	for _, c := range pathCases() {
		n := len(c.path)
		for _, at := range []int{math.MinInt, -n, -2, -1, n, n + 1, 2 * n, 100, math.MaxInt} {
			got, ok := impl.PathBegin(c.path, at)
			wantNoLists(t, "PathBegin of no place", got, ok)
		}
	}
	for _, at := range []int{math.MinInt, -1, 0, 1, 2, 3, 8, math.MaxInt} {
		wantFailing(t, "PathBegin", func(p [][]int) ([][]int, bool) { return impl.PathBegin(p, at) })
	}
}

// Promise 55.

func TestPromise55PathConvex(t *testing.T) {
	for _, p := range slices.Concat(paths(), allPaths(4, 2), allPaths(6, 1)) {
		got := impl.PathConvex(p)
		if got != isConvex(p) {
			t.Errorf("PathConvex of %v returned %v", p, got)
		}
		if !got {
			continue
		}
		if area, ok := impl.PathArea(p); !ok || area <= 0 {
			t.Errorf("PathConvex of %v holds, PathArea is %d, %v", p, area, ok)
		}
		if !impl.PathConvex(mustPath(t, "PathTurn", p, impl.PathTurn)) {
			t.Errorf("PathConvex of %v holds, but not for PathTurn", p)
		}
		if impl.PathConvex(mustPath(t, "PathBack", p, impl.PathBack)) {
			t.Errorf("PathConvex of %v holds, and for PathBack, too", p)
		}
	}
}

func TestPathConvexEdges(t *testing.T) {
	for _, c := range pathCases() {
		// However it is turned, and whichever step it begins with.
		p := c.path
		for range 4 {
			p = pathTurnOf(p)
			for at := range p {
				if got := impl.PathConvex(pathBeginOf(p, at)); got == (c.inside == notConvex) {
					t.Errorf("PathConvex of %v returned %v", pathBeginOf(p, at), got)
				}
			}
		}
	}
	for _, p := range slices.Concat(linePaths(), noPaths()) {
		if impl.PathConvex(p) {
			t.Errorf("PathConvex of %v holds", p)
		}
	}
}

// Promise 56.

func TestPromise56PathBox(t *testing.T) {
	for _, p := range paths() {
		x, y, ok := impl.PathBox(p)
		wantPair(t, "PathBox", x, y, ok, boxOf(p))
		if !impl.PathConvex(p) {
			continue
		}
		if area, ok := impl.PathArea(p); !ok || area > 2*x*y || x < 1 || y < 1 {
			t.Errorf("PathBox of %v is %d, %d, PathArea %d, %v", p, x, y, area, ok)
		}
	}
}

func TestPathBoxEdges(t *testing.T) {
	more := []pathCase{
		{path: [][]int{{-9, 0}, {-9, 0}, {-9, 0}, {-9, 0}, {9, 0}, {9, 0}, {9, 0}, {9, 0}}, box: [2]int{36, 0}},
		{path: [][]int{{0, -9}, {0, -9}, {0, -9}, {0, -9}, {0, 9}, {0, 9}, {0, 9}, {0, 9}}, box: [2]int{0, 36}},
		{path: [][]int{{5, 1}, {-9, 2}, {4, -3}}, box: [2]int{9, 3}},
		{path: [][]int{{-5, -1}, {9, -2}, {-4, 3}}, box: [2]int{9, 3}},
	}
	for _, c := range slices.Concat(pathCases(), more) {
		x, y, ok := impl.PathBox(c.path)
		wantPair(t, "PathBox", x, y, ok, c.box)
	}
	for _, p := range noPaths() {
		x, y, ok := impl.PathBox(p)
		wantNoPair(t, "PathBox", x, y, ok)
	}
}

// Promise 57.

func TestPromise57PathRim(t *testing.T) {
	for _, p := range paths() {
		rim, ok := impl.PathRim(p)
		wantNumber(t, "PathRim", rim, ok, rimOf(p))
		turned, ok := impl.PathRim(mustPath(t, "PathTurn", p, impl.PathTurn))
		wantNumber(t, "PathRim of PathTurn", turned, ok, rim)
		area, ok := impl.PathArea(p)
		if !ok || rim < len(p) || (rim+area)%2 != 0 {
			t.Errorf("PathRim of %v is %d, PathArea %d, %v", p, rim, area, ok)
		}
	}
}

func TestPathRimEdges(t *testing.T) {
	for _, c := range pathCases() {
		rim, ok := impl.PathRim(c.path)
		wantNumber(t, "PathRim", rim, ok, c.rim)
	}
	// Each step there and back, twice.
	for _, s := range stepsOf(stepMax) {
		p := [][]int{s, {-s[0], -s[1]}, s, {-s[0], -s[1]}}
		rim, ok := impl.PathRim(p)
		wantNumber(t, "PathRim of one step", rim, ok, rimOf(p))
	}
	wantNumberless(t, "PathRim", noPaths(), impl.PathRim)
}

// Promise 58.

func TestPromise58PathInside(t *testing.T) {
	for _, p := range paths() {
		inside, ok := impl.PathInside(p)
		if !isConvex(p) {
			wantNoNumber(t, "PathInside of a path that is not convex", inside, ok)
			continue
		}
		all, okAll := impl.PathInsideAll(p)
		wantNumber(t, "PathInsideAll as PathInside", all, ok && okAll, inside)
		area, okArea := impl.PathArea(p)
		rim, okRim := impl.PathRim(p)
		wantNumber(t, "PathArea by PathInside", area, okArea && okRim, 2*inside+rim-2)
	}
}

func TestPathInsideEdges(t *testing.T) {
	for _, c := range pathCases() {
		inside, ok := impl.PathInside(c.path)
		if c.inside == notConvex {
			wantNoNumber(t, "PathInside", inside, ok)
			continue
		}
		wantNumber(t, "PathInside", inside, ok, c.inside)
	}
	wantNumberless(t, "PathInside", slices.Concat(linePaths(), noPaths()), impl.PathInside)
}

// Promise 59.

func TestPromise59PathInsideAll(t *testing.T) {
	for _, p := range paths() {
		inside, ok := impl.PathInsideAll(p)
		if !isConvex(p) {
			wantNoNumber(t, "PathInsideAll of a path that is not convex", inside, ok)
			continue
		}
		turned, okTurned := impl.PathInsideAll(mustPath(t, "PathTurn", p, impl.PathTurn))
		wantNumber(t, "PathInsideAll of PathTurn", turned, ok && okTurned, inside)
		if !impl.PathConvex(p) {
			t.Errorf("PathInsideAll of %v succeeds, PathConvex does not hold", p)
		}
	}
	for i, p := range convexPaths() {
		// The count by crossings takes long, so it is made for some of them.
		if i%10 == 0 {
			inside, ok := impl.PathInsideAll(p)
			wantNumber(t, "PathInsideAll", inside, ok, insideOf(p))
		}
	}
}

func TestPathInsideAllEdges(t *testing.T) {
	for _, c := range pathCases() {
		for at := range c.path {
			inside, ok := impl.PathInsideAll(pathBeginOf(c.path, at))
			if c.inside == notConvex {
				wantNoNumber(t, "PathInsideAll", inside, ok)
				continue
			}
			wantNumber(t, "PathInsideAll", inside, ok, c.inside)
		}
	}
	wantNumberless(t, "PathInsideAll", slices.Concat(linePaths(), noPaths()), impl.PathInsideAll)
}

// The general rules: no argument changes, and no memory is shared.

func TestPathMemory(t *testing.T) {
	lists := slices.Concat(linePaths(), noPaths(), mixedPaths()[:60], woundPaths()[:60])
	for _, c := range pathCases() {
		lists = append(lists, c.path)
	}
	for _, p := range lists {
		wantOwnRows(t, "PathCorners", p, func(p [][]int) [][]int {
			corners, _ := impl.PathCorners(p)
			return corners
		})
		wantOwnRows(t, "PathBack", p, func(p [][]int) [][]int {
			back, _ := impl.PathBack(p)
			return back
		})
		wantOwnRows(t, "PathTurn", p, func(p [][]int) [][]int {
			turned, _ := impl.PathTurn(p)
			return turned
		})
		for _, at := range []int{-1, 0, 1, 2, 8} {
			wantOwnRows(t, "PathBegin", p, func(p [][]int) [][]int {
				begun, _ := impl.PathBegin(p, at)
				return begun
			})
		}
		wantOwnRows(t, "PathIn and the others", p, func(p [][]int) [][]int {
			impl.PathIn(p)
			impl.PathArea(p)
			impl.PathConvex(p)
			impl.PathBox(p)
			impl.PathRim(p)
			impl.PathInside(p)
			impl.PathInsideAll(p)
			return nil
		})
	}
}

// A path may have the same list as several of its steps.
func TestPathSameStepTwice(t *testing.T) {
	right, left := []int{2, 1}, []int{-4, -2}
	p := [][]int{right, right, left}
	wantOwnLists(t, "PathBegin of the same step twice", func() [][]int {
		begun, ok := impl.PathBegin(p, 1)
		wantLists(t, "PathBegin", begun, ok, [][]int{{2, 1}, {-4, -2}, {2, 1}})
		return begun
	})
	wantOwnLists(t, "PathBack of the same step twice", func() [][]int {
		back, ok := impl.PathBack(p)
		wantLists(t, "PathBack", back, ok, [][]int{{4, 2}, {-2, -1}, {-2, -1}})
		return back
	})
	wantOwnLists(t, "PathTurn of the same step twice", func() [][]int {
		turned, ok := impl.PathTurn(p)
		wantLists(t, "PathTurn", turned, ok, [][]int{{-1, 2}, {-1, 2}, {2, -4}})
		return turned
	})
	if !slices.Equal(right, []int{2, 1}) || !slices.Equal(left, []int{-4, -2}) {
		t.Errorf("a step was changed, to %v or %v", right, left)
	}
}
