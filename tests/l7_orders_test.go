package tests

import (
	"math"
	"slices"
	"testing"

	"loop.example/closingsticks/impl"
)

// The limits are written out here, so that a changed constant is noticed.
const (
	starMin    = 2
	starMax    = 4
	ordersMax  = 6
	runsOfMost = 5
)

// directionOf returns the angle of a step, from rightwards on to the left.
func directionOf(s []int) float64 {
	angle := math.Atan2(float64(s[1]), float64(s[0]))
	if angle < 0 {
		angle += 2 * math.Pi
	}
	return angle
}

// inOrder returns steps by their directions, each one put behind all that are not behind it.
func inOrder(steps [][]int) [][]int {
	var sorted [][]int
	for _, s := range steps {
		at := len(sorted)
		// The least angle between two directions is far greater than this.
		for at > 0 && directionOf(sorted[at-1]) > directionOf(s)+0.001 {
			at--
		}
		sorted = slices.Insert(sorted, at, s)
	}
	return sorted
}

// onOneLine tells whether all steps lie on one line.
func onOneLine(steps [][]int) bool {
	for _, s := range steps {
		if s[0]*steps[0][1] != s[1]*steps[0][0] {
			return false
		}
	}
	return true
}

// runOf returns a list with the places from one to another one in opposite order.
func runOf[T any](list []T, from int, to int) []T {
	run := slices.Clone(list)
	for i := from; i <= to; i++ {
		run[i] = list[from+to-i]
	}
	return run
}

// placeOrders returns all orders of the places from 0 to n - 1.
func placeOrders(n int) [][]int {
	all := [][]int{{}}
	for place := range n {
		var next [][]int
		for _, order := range all {
			for at := range len(order) + 1 {
				next = append(next, slices.Insert(slices.Clone(order), at, place))
			}
		}
		all = next
	}
	return all
}

// rowOf returns an order of places as an array.
func rowOf(order []int) [stepsMax]int {
	var row [stepsMax]int
	copy(row[:], order)
	return row
}

// runsTo returns how many runs put in opposite order lead to each order of n places.
func runsTo(n int) map[[stepsMax]int]int {
	first := placeOrders(n)[0]
	slices.Sort(first)
	runs := map[[stepsMax]int]int{rowOf(first): 0}
	for queue := [][]int{first}; len(queue) > 0; queue = queue[1:] {
		order := queue[0]
		for to := range order {
			for from := range to {
				next := runOf(order, from, to)
				if _, ok := runs[rowOf(next)]; !ok {
					runs[rowOf(next)] = runs[rowOf(order)] + 1
					queue = append(queue, next)
				}
			}
		}
	}
	return runs
}

// ordered returns the steps of a path in an order of places.
func ordered(p [][]int, order []int) [][]int {
	var steps [][]int
	for _, place := range order {
		steps = append(steps, p[place])
	}
	return steps
}

// never stands for the number of runs until a path is convex that never is.
const never = -1

// orderTables are all orders of places, and the runs that lead to them, for 3 to 6 steps.
type orderTables struct {
	orders [ordersMax + 1][][]int
	runs   [ordersMax + 1]map[[stepsMax]int]int
}

// newOrderTables returns the tables.
func newOrderTables() orderTables {
	var tables orderTables
	for n := stepsMin; n <= ordersMax; n++ {
		tables.orders[n] = placeOrders(n)
		tables.runs[n] = runsTo(n)
	}
	return tables
}

// most returns the greatest area, twice, of all orders of the steps of a path.
func (tables orderTables) most(p [][]int) int {
	most := math.MinInt
	for _, order := range tables.orders[len(p)] {
		most = max(most, areaOf(ordered(p, order)))
	}
	return most
}

// fewest returns the least number of runs until a path is convex, or never.
func (tables orderTables) fewest(p [][]int) int {
	fewest := never
	for _, order := range tables.orders[len(p)] {
		runs := tables.runs[len(p)][rowOf(order)]
		if (fewest == never || runs < fewest) && isConvex(ordered(p, order)) {
			fewest = runs
		}
	}
	return fewest
}

// latticeOf returns the number of different orders of the steps of a path, told by how
// often each step stands in it.
func latticeOf(p [][]int) int {
	many := 1
	for i := range p {
		same := 0
		for _, s := range p[:i+1] {
			if slices.Equal(s, p[i]) {
				same++
			}
		}
		many = many * (i + 1) / same
	}
	return many
}

// ofAtMost returns those of paths that have at most a number of steps.
func ofAtMost(steps int, lists [][][]int) [][][]int {
	return slices.DeleteFunc(lists, func(p [][]int) bool { return len(p) > steps })
}

// ofMore returns those of paths that have more than a number of steps.
func ofMore(steps int, lists [][][]int) [][][]int {
	return slices.DeleteFunc(lists, func(p [][]int) bool { return len(p) <= steps })
}

// samePaths returns paths that have the same steps more than once.
func samePaths() [][][]int {
	return [][][]int{
		{{1, 0}, {1, 0}, {-2, 0}},
		{{-2, 2}, {1, -1}, {1, -1}},
		{{2, 0}, {0, 3}, {2, 0}, {0, 3}, {-4, -6}},
		{{1, 2}, {1, 2}, {1, 2}, {-3, -6}},
		{{1, 2}, {1, 2}, {1, 2}, {1, 2}, {-4, -8}},
		{{1, 0}, {0, 1}, {-1, -1}, {-1, -1}, {0, 1}, {1, 0}},
		{{1, 0}, {0, 1}, {1, 0}, {0, 1}, {1, 0}, {-3, -2}},
		{{1, 1}, {1, 1}, {1, 1}, {1, 1}, {1, 1}, {-5, -5}},
		{{1, 0}, {-1, 0}, {1, 0}, {-1, 0}, {1, 0}, {-1, 0}},
		{{0, 1}, {0, 2}, {1, 0}, {0, 1}, {-1, -4}},
	}
}

// morePaths returns paths, and those with the same steps more than once.
func morePaths() [][][]int {
	return slices.Concat(paths(), samePaths())
}

// orderCase is a path, its steps in order, and what is told of it.
type orderCase struct {
	path, sorted          [][]int
	most, fewest, lattice int
}

// orderCases are paths of at most 5 steps.
func orderCases() []orderCase {
	square := [][]int{{1, 0}, {0, 1}, {-1, 0}, {0, -1}}
	return []orderCase{
		{square, square, 2, 0, 24},
		{[][]int{{0, 1}, {1, 0}, {0, -1}, {-1, 0}}, square, 2, 1, 24},
		{[][]int{{0, -1}, {-1, 0}, {0, 1}, {1, 0}}, square, 2, 1, 24},
		{[][]int{{1, 0}, {-1, 0}, {0, 1}, {0, -1}}, square, 2, 1, 24},
		// Convex, though it does not begin rightwards.
		{[][]int{{0, -1}, {1, 0}, {0, 1}, {-1, 0}}, square, 2, 0, 24},
		{[][]int{{1, 0}, {0, 1}, {-1, -1}}, [][]int{{1, 0}, {0, 1}, {-1, -1}}, 1, 0, 6},
		{[][]int{{1, 0}, {-1, -1}, {0, 1}}, [][]int{{1, 0}, {0, 1}, {-1, -1}}, 1, 1, 6},
		{[][]int{{0, -1}, {-1, 0}, {1, 1}}, [][]int{{1, 1}, {-1, 0}, {0, -1}}, 1, 1, 6},
		// Steps of one direction, in the order they had, the same ones and others.
		{[][]int{{2, 0}, {-3, -3}, {1, 0}, {0, 3}}, [][]int{{2, 0}, {1, 0}, {0, 3}, {-3, -3}}, 9, 1, 24},
		{[][]int{{1, 0}, {-3, -3}, {2, 0}, {0, 3}}, [][]int{{1, 0}, {2, 0}, {0, 3}, {-3, -3}}, 9, 1, 24},
		{[][]int{{1, 1}, {-2, 0}, {1, 1}, {0, -2}}, [][]int{{1, 1}, {1, 1}, {-2, 0}, {0, -2}}, 4, 1, 12},
		{[][]int{{-2, -4}, {0, 3}, {0, 2}, {3, 0}, {-1, -1}}, [][]int{{3, 0}, {0, 3}, {0, 2}, {-1, -1}, {-2, -4}}, 17, 1, 120},
		// All directions between the four.
		{[][]int{{-1, 2}, {2, 1}, {1, -2}, {-2, -1}}, [][]int{{2, 1}, {-1, 2}, {-2, -1}, {1, -2}}, 10, 1, 24},
		{[][]int{{-9, 8}, {9, 8}, {9, -8}, {-9, -8}}, [][]int{{9, 8}, {-9, 8}, {-9, -8}, {9, -8}}, 288, 1, 24},
		{[][]int{{9, 8}, {-8, -9}, {-1, 1}}, [][]int{{9, 8}, {-1, 1}, {-8, -9}}, 17, 1, 6},
		// More than one run.
		{[][]int{{0, 1}, {1, -1}, {1, 0}, {-2, 0}}, [][]int{{1, 0}, {0, 1}, {-2, 0}, {1, -1}}, 3, 2, 24},
		{[][]int{{-1, 0}, {1, -1}, {0, 1}, {-1, -1}, {1, 1}}, [][]int{{1, 1}, {0, 1}, {-1, 0}, {-1, -1}, {1, -1}}, 5, 3, 120},
		// Steps that are just not of one direction.
		{[][]int{{-9, -9}, {8, 9}, {9, 8}, {-8, -8}}, [][]int{{9, 8}, {8, 9}, {-9, -9}, {-8, -8}}, 17, 1, 24},
		// Steps on one line.
		{[][]int{{-2, 0}, {1, 0}, {1, 0}}, [][]int{{1, 0}, {1, 0}, {-2, 0}}, 0, never, 3},
		{[][]int{{-1, 0}, {-3, 0}, {3, 0}, {1, 0}}, [][]int{{3, 0}, {1, 0}, {-1, 0}, {-3, 0}}, 0, never, 24},
		{[][]int{{0, -9}, {0, 9}, {0, -9}, {0, 9}}, [][]int{{0, 9}, {0, 9}, {0, -9}, {0, -9}}, 0, never, 6},
		{[][]int{{1, -1}, {-3, 3}, {1, -1}, {1, -1}}, [][]int{{-3, 3}, {1, -1}, {1, -1}, {1, -1}}, 0, never, 4},
		{[][]int{{-4, -2}, {2, 1}, {4, 2}, {-4, -2}, {2, 1}}, [][]int{{2, 1}, {4, 2}, {2, 1}, {-4, -2}, {-4, -2}}, 0, never, 30},
	}
}

// allStars returns all stars of a number of steps with numbers from -most to most.
func allStars(steps int, most int) [][][]int {
	stars := [][][]int{nil}
	for range steps {
		var next [][][]int
		for _, star := range stars {
			for _, s := range stepsOf(most) {
				next = append(next, append(slices.Clone(star), s))
			}
		}
		stars = next
	}
	return stars
}

// mixedStars returns stars of 2 to 4 steps with numbers of all sizes.
func mixedStars() [][][]int {
	var all [][][]int
	for i, p := range mixedPaths() {
		all = append(all, p[:min(len(p), starMin+i%3)])
	}
	return all
}

// lineStars returns stars whose steps lie on one line.
func lineStars() [][][]int {
	var all [][][]int
	for _, d := range stepsOf(2) {
		for _, times := range [][]int{
			{1, 1}, {1, -1}, {-1, 1}, {2, 1}, {1, 2}, {1, -2}, {-2, -1}, {1, 1, 1}, {1, -2, 1}, {-1, 2, 3},
			{1, 1, 1, 1}, {1, -1, 1, -1}, {4, -3, 2, -1}, {-1, -2, 3, 4}, {2, 2, -2, 1},
		} {
			var star [][]int
			for _, k := range times {
				star = append(star, []int{k * d[0], k * d[1]})
			}
			all = append(all, star)
		}
	}
	return all
}

// starCase is a star, its zonogon, and what is told of it; inside is notConvex if all
// its steps lie on one line.
type starCase struct {
	star, zono           [][]int
	area, pieces, inside int
}

// starCases are stars whose steps have all directions.
func starCases() []starCase {
	square := [][]int{{1, 0}, {0, 1}, {-1, 0}, {0, -1}}
	return []starCase{
		{[][]int{{1, 0}, {0, 1}}, square, 2, 1, 0},
		{[][]int{{0, 1}, {1, 0}}, square, 2, 1, 0},
		{[][]int{{-1, 0}, {0, 1}}, square, 2, 1, 0},
		{[][]int{{1, 0}, {0, -1}}, square, 2, 1, 0},
		{[][]int{{0, -1}, {-1, 0}}, square, 2, 1, 0},
		{[][]int{{9, 0}, {0, 9}}, [][]int{{9, 0}, {0, 9}, {-9, 0}, {0, -9}}, 162, 1, 64},
		// Leftwards and upwards is not below, rightwards and downwards is.
		{[][]int{{-1, 2}, {2, 1}}, [][]int{{2, 1}, {-1, 2}, {-2, -1}, {1, -2}}, 10, 1, 4},
		{[][]int{{1, -2}, {2, 1}}, [][]int{{2, 1}, {-1, 2}, {-2, -1}, {1, -2}}, 10, 1, 4},
		{[][]int{{1, -2}, {-2, -1}}, [][]int{{2, 1}, {-1, 2}, {-2, -1}, {1, -2}}, 10, 1, 4},
		{[][]int{{9, 8}, {9, -8}}, [][]int{{9, 8}, {-9, 8}, {-9, -8}, {9, -8}}, 288, 1, 143},
		{[][]int{{9, 8}, {-8, -9}}, [][]int{{9, 8}, {8, 9}, {-9, -8}, {-8, -9}}, 34, 1, 16},
		{
			[][]int{{1, 0}, {0, 1}, {1, 1}},
			[][]int{{1, 0}, {1, 1}, {0, 1}, {-1, 0}, {-1, -1}, {0, -1}}, 6, 3, 1,
		},
		{
			[][]int{{-2, 1}, {1, 0}, {-1, -1}, {0, 3}},
			[][]int{{1, 0}, {1, 1}, {0, 3}, {-2, 1}, {-1, 0}, {-1, -1}, {0, -3}, {2, -1}}, 34, 6, 12,
		},
		// Steps of one direction stay in the order they had, with signs turned or not.
		{
			[][]int{{2, 0}, {0, 1}, {-1, 0}},
			[][]int{{2, 0}, {1, 0}, {0, 1}, {-2, 0}, {-1, 0}, {0, -1}}, 6, 2, 0,
		},
		{
			[][]int{{-1, 0}, {0, 1}, {2, 0}},
			[][]int{{1, 0}, {2, 0}, {0, 1}, {-1, 0}, {-2, 0}, {0, -1}}, 6, 2, 0,
		},
		{
			[][]int{{1, -1}, {3, 0}, {-2, 2}, {-1, 1}},
			[][]int{{3, 0}, {-1, 1}, {-2, 2}, {-1, 1}, {-3, 0}, {1, -1}, {2, -2}, {1, -1}}, 24, 3, 6,
		},
		{
			[][]int{{2, 2}, {2, 2}, {-2, -2}, {1, -1}},
			[][]int{{2, 2}, {2, 2}, {2, 2}, {-1, 1}, {-2, -2}, {-2, -2}, {-2, -2}, {1, -1}}, 24, 3, 6,
		},
		// Steps on one line.
		{[][]int{{1, 0}, {1, 0}}, [][]int{{1, 0}, {1, 0}, {-1, 0}, {-1, 0}}, 0, 0, notConvex},
		{[][]int{{1, 0}, {-2, 0}}, [][]int{{1, 0}, {2, 0}, {-1, 0}, {-2, 0}}, 0, 0, notConvex},
		{[][]int{{0, -9}, {0, 9}, {0, -1}}, [][]int{{0, 9}, {0, 9}, {0, 1}, {0, -9}, {0, -9}, {0, -1}}, 0, 0, notConvex},
		{[][]int{{3, -3}, {-1, 1}}, [][]int{{-3, 3}, {-1, 1}, {3, -3}, {1, -1}}, 0, 0, notConvex},
		{
			[][]int{{-2, -4}, {1, 2}, {3, 6}, {-4, -8}},
			[][]int{{2, 4}, {1, 2}, {3, 6}, {4, 8}, {-2, -4}, {-1, -2}, {-3, -6}, {-4, -8}}, 0, 0, notConvex,
		},
	}
}

// stars returns stars of all numbers of steps: all small ones, greater ones, and steps on
// one line.
func stars() [][][]int {
	all := slices.Concat(allStars(2, 3), allStars(3, 1), allStars(4, 1), mixedStars(), lineStars())
	for _, c := range starCases() {
		all = append(all, c.star)
	}
	return all
}

// noStars returns lists that are no stars, each for one reason.
func noStars() [][][]int {
	return [][][]int{
		nil,
		{},
		{{}},
		{nil, nil},
		{{1, 0}},
		{{0, 0}},
		{{1, 0}, {0, 0}},
		{{0, 0}, {0, 1}},
		{{0, 0}, {0, 0}},
		{{1, 0}, {0, 1}, {0, 0}},
		{{1, 0}, {0, 1}, {1, 1}, {0, 0}},
		{{1, 0}, {1}},
		{{1}, {0, 1}},
		{{1, 0}, {}},
		{nil, {0, 1}},
		{{1, 0}, {0, 1}, nil},
		{{1, 0, 0}, {0, 1}},
		{{1, 0}, {0, 1, 0}},
		{{1, 0, 0}, {0, 1, 0}, {1, 1, 0}},
		{{10, 0}, {0, 1}},
		{{1, 0}, {0, 10}},
		{{-10, 0}, {0, 1}},
		{{1, 0}, {0, -10}},
		{{1, 0}, {0, 1}, {9, 10}},
		{{1, 0}, {0, 1}, {1, 1}, {-10, 9}},
		{{math.MaxInt, 0}, {0, 1}},
		{{1, 0}, {math.MinInt, math.MinInt}},
		{{math.MinInt, math.MaxInt}, {math.MaxInt, math.MinInt}},
		{{1, 0}, {0, 1}, {1, 1}, {1, 2}, {2, 1}},
		{{1, 0}, {0, 1}, {-1, 0}, {0, -1}, {1, 1}, {-1, -1}},
		{{1, 0}, {2, 0}, {3, 0}, {4, 0}, {5, 0}},
		make([][]int, 2),
		make([][]int, 1000),
		slices.Repeat([][]int{{1, 0}, {0, 1}}, 500),
	}
}

// zonoOf returns the zonogon of a star.
func zonoOf(star [][]int) [][]int {
	var half [][]int
	for _, s := range star {
		if directionOf(s) > math.Pi-0.001 {
			s = []int{-s[0], -s[1]}
		}
		half = append(half, s)
	}
	half = inOrder(half)
	whole := slices.Clone(half)
	for _, s := range half {
		whole = append(whole, []int{-s[0], -s[1]})
	}
	return whole
}

// crossesOf returns what comes by each pair of steps of a star, without its sign.
func crossesOf(star [][]int) []int {
	var all []int
	for j := range star {
		for i := range j {
			cross := star[i][0]*star[j][1] - star[i][1]*star[j][0]
			all = append(all, max(cross, -cross))
		}
	}
	return all
}

// backwards returns a list backwards.
func backwards[T any](list []T) []T {
	return runOf(list, 0, len(list)-1)
}

// wantNoRun checks that OrderRun and OrderGain fail for a list and places.
func wantNoRun(t *testing.T, p [][]int, from int, to int) {
	t.Helper()
	run, ok := impl.OrderRun(p, from, to)
	wantNoLists(t, "OrderRun", run, ok)
	gain, ok := impl.OrderGain(p, from, to)
	wantNoNumber(t, "OrderGain", gain, ok)
}

// Promise 60.

func TestPromise60OrderSorted(t *testing.T) {
	for _, p := range morePaths() {
		sorted, ok := impl.OrderSorted(p)
		wantLists(t, "OrderSorted", sorted, ok, inOrder(p))
		again, ok := impl.OrderSorted(sorted)
		wantLists(t, "OrderSorted of OrderSorted", again, ok, sorted)
		before, okBefore := impl.PathArea(p)
		area, ok := impl.PathArea(sorted)
		if !ok || !okBefore || area < before {
			t.Errorf("OrderSorted of %v has the area %d, %v, not at least %d, %v", p, area, ok, before, okBefore)
		}
		if convex := impl.PathConvex(sorted); convex != (area != 0) || convex == onOneLine(p) {
			t.Errorf("PathConvex of OrderSorted of %v is %v", p, convex)
		}
	}
}

func TestOrderSortedEdges(t *testing.T) {
	for _, c := range orderCases() {
		sorted, ok := impl.OrderSorted(c.path)
		wantLists(t, "OrderSorted", sorted, ok, c.sorted)
	}
	long := []struct {
		path, want [][]int
	}{
		{
			[][]int{{-1, -1}, {1, 1}, {0, -1}, {0, 1}, {1, -1}, {-1, 1}, {-1, 0}, {1, 0}},
			[][]int{{1, 0}, {1, 1}, {0, 1}, {-1, 1}, {-1, 0}, {-1, -1}, {0, -1}, {1, -1}},
		},
		{
			[][]int{{-1, 0}, {2, 0}, {-2, 0}, {1, 0}, {-3, 0}, {3, 0}, {-4, 0}, {4, 0}},
			[][]int{{2, 0}, {1, 0}, {3, 0}, {4, 0}, {-1, 0}, {-2, 0}, {-3, 0}, {-4, 0}},
		},
		{
			[][]int{{0, -2}, {0, -1}, {1, 0}, {0, 1}, {2, 0}, {0, 2}, {-3, 0}},
			[][]int{{1, 0}, {2, 0}, {0, 1}, {0, 2}, {-3, 0}, {0, -2}, {0, -1}},
		},
	}
	for _, c := range long {
		sorted, ok := impl.OrderSorted(c.path)
		wantLists(t, "OrderSorted", sorted, ok, c.want)
	}
	// Any two directions, and those opposite to them.
	for _, star := range allStars(2, 4) {
		s, u := star[0], star[1]
		p := [][]int{s, u, {-s[0], -s[1]}, {-u[0], -u[1]}}
		for range p {
			p = pathBeginOf(p, 1)
			sorted, ok := impl.OrderSorted(p)
			wantLists(t, "OrderSorted", sorted, ok, inOrder(p))
		}
	}
	wantFailing(t, "OrderSorted", impl.OrderSorted)
}

// Promise 61.

func TestPromise61OrderMost(t *testing.T) {
	tables := newOrderTables()
	for _, p := range ofAtMost(ordersMax, morePaths()) {
		most, ok := impl.OrderMost(p)
		wantNumber(t, "OrderMost", most, ok, tables.most(p))
		area, ok := impl.PathArea(mustPath(t, "OrderSorted", p, impl.OrderSorted))
		wantNumber(t, "PathArea of OrderSorted", area, ok, most)
	}
}

func TestOrderMostEdges(t *testing.T) {
	for _, c := range orderCases() {
		most, ok := impl.OrderMost(c.path)
		wantNumber(t, "OrderMost", most, ok, c.most)
	}
	six := [][]int{{-1, -1}, {0, 1}, {0, -1}, {1, 1}, {-1, 0}, {1, 0}}
	most, ok := impl.OrderMost(six)
	wantNumber(t, "OrderMost of six steps", most, ok, 6)
	greatest := [][]int{{9, 9}, {-9, 9}, {-9, -9}, {9, -9}, {0, 9}, {0, -9}}
	most, ok = impl.OrderMost(greatest)
	wantNumber(t, "OrderMost of six great steps", most, ok, 648)
	for _, p := range linePaths() {
		if len(p) <= ordersMax {
			most, ok := impl.OrderMost(p)
			wantNumber(t, "OrderMost of steps on one line", most, ok, 0)
		}
	}
	wantNumberless(t, "OrderMost", slices.Concat(noPaths(), ofMore(ordersMax, paths())), impl.OrderMost)
}

// Promise 62.

func TestPromise62OrderRun(t *testing.T) {
	for _, p := range morePaths() {
		rim, okRim := impl.PathRim(p)
		for to := range p {
			for from := range to + 1 {
				run, ok := impl.OrderRun(p, from, to)
				wantLists(t, "OrderRun", run, ok, runOf(p, from, to))
				again, ok := impl.OrderRun(run, from, to)
				wantLists(t, "OrderRun of OrderRun", again, ok, p)
				after, ok := impl.PathRim(run)
				wantNumber(t, "PathRim of OrderRun", after, ok && okRim, rim)
			}
		}
	}
}

func TestOrderRunEdges(t *testing.T) {
	p := [][]int{{1, 0}, {2, 3}, {-4, 0}, {0, -5}, {1, 2}}
	cases := []struct {
		from, to int
		want     [][]int
	}{
		{0, 0, p},
		{2, 2, p},
		{4, 4, p},
		{0, 1, [][]int{{2, 3}, {1, 0}, {-4, 0}, {0, -5}, {1, 2}}},
		{3, 4, [][]int{{1, 0}, {2, 3}, {-4, 0}, {1, 2}, {0, -5}}},
		{1, 3, [][]int{{1, 0}, {0, -5}, {-4, 0}, {2, 3}, {1, 2}}},
		{0, 3, [][]int{{0, -5}, {-4, 0}, {2, 3}, {1, 0}, {1, 2}}},
		{0, 4, [][]int{{1, 2}, {0, -5}, {-4, 0}, {2, 3}, {1, 0}}},
	}
	for _, c := range cases {
		run, ok := impl.OrderRun(p, c.from, c.to)
		wantLists(t, "OrderRun", run, ok, c.want)
	}
}

// noPlaces returns pairs of numbers that are not places of a list in order.
func noPlaces(n int) [][2]int {
	numbers := []int{math.MinInt, -n, -1, 0, 1, n - 1, n, n + 1, stepsMax, math.MaxInt}
	var all [][2]int
	for _, from := range numbers {
		for _, to := range numbers {
			if from < 0 || to < from || to >= n {
				all = append(all, [2]int{from, to})
			}
		}
	}
	return all
}

func TestOrderRunAndGainInvalid(t *testing.T) {
	for _, c := range pathCases() {
		for _, places := range noPlaces(len(c.path)) {
			wantNoRun(t, c.path, places[0], places[1])
		}
	}
	for _, p := range noPaths() {
		wantNoRun(t, p, 0, 0)
		wantNoRun(t, p, 0, 2)
		wantNoRun(t, p, 1, 2)
		wantNoRun(t, p, -1, 1)
		wantNoRun(t, p, 2, 1)
		wantNoRun(t, p, 0, len(p)-1)
	}
}

// Promise 63.

func TestPromise63OrderGain(t *testing.T) {
	for _, p := range morePaths() {
		for to := range p {
			for from := range to + 1 {
				gain, ok := impl.OrderGain(p, from, to)
				wantNumber(t, "OrderGain", gain, ok, areaOf(runOf(p, from, to))-areaOf(p))
				run, okRun := impl.OrderRun(p, from, to)
				back, okBack := impl.OrderGain(run, from, to)
				wantNumber(t, "OrderGain of OrderRun", back, okRun && okBack, -gain)
				if gain%2 != 0 {
					t.Errorf("OrderGain of %v from %d to %d is %d", p, from, to, gain)
				}
			}
		}
	}
}

func TestOrderGainEdges(t *testing.T) {
	square := [][]int{{1, 0}, {0, 1}, {-1, 0}, {0, -1}}
	line := [][]int{{1, 1}, {-3, -3}, {2, 2}, {1, 1}, {-1, -1}}
	cases := []struct {
		path           [][]int
		from, to, want int
	}{
		{square, 0, 0, 0},
		{square, 3, 3, 0},
		{square, 0, 1, -2},
		{square, 2, 3, -2},
		{square, 1, 3, -4},
		{square, 0, 3, -4},
		{[][]int{{0, 1}, {1, 0}, {0, -1}, {-1, 0}}, 0, 3, 4},
		{[][]int{{9, 0}, {-9, -9}, {0, 9}}, 1, 2, 162},
		{[][]int{{9, 0}, {-9, -9}, {0, 9}}, 1, 1, 0},
		{line, 0, 1, 0},
		{line, 1, 3, 0},
		{line, 0, 4, 0},
	}
	for _, c := range cases {
		gain, ok := impl.OrderGain(c.path, c.from, c.to)
		wantNumber(t, "OrderGain", gain, ok, c.want)
	}
}

// Promise 64.

func TestPromise64OrderFewest(t *testing.T) {
	tables := newOrderTables()
	for _, p := range ofAtMost(runsOfMost, morePaths()) {
		fewest, ok := impl.OrderFewest(p)
		want := tables.fewest(p)
		if onOneLine(p) != (want == never) {
			t.Errorf("%v is never convex, or always", p)
		}
		if want == never {
			wantNoNumber(t, "OrderFewest of steps on one line", fewest, ok)
			continue
		}
		wantNumber(t, "OrderFewest", fewest, ok, want)
		if (fewest == 0) != impl.PathConvex(p) || fewest >= len(p) {
			t.Errorf("OrderFewest of %v is %d", p, fewest)
		}
		area, ok := impl.PathArea(mustPath(t, "OrderSorted", p, impl.OrderSorted))
		if !ok || area <= 0 {
			t.Errorf("OrderFewest of %v succeeds, PathArea of OrderSorted is %d, %v", p, area, ok)
		}
	}
}

func TestOrderFewestEdges(t *testing.T) {
	for _, c := range orderCases() {
		fewest, ok := impl.OrderFewest(c.path)
		if c.fewest == never {
			wantNoNumber(t, "OrderFewest", fewest, ok)
			continue
		}
		wantNumber(t, "OrderFewest", fewest, ok, c.fewest)
	}
	wantNumberless(t, "OrderFewest of steps on one line", linePaths(), impl.OrderFewest)
	wantNumberless(t, "OrderFewest", slices.Concat(noPaths(), ofMore(runsOfMost, paths())), impl.OrderFewest)
}

// Promise 65.

func TestPromise65OrderLattice(t *testing.T) {
	for _, p := range ofAtMost(ordersMax, morePaths()) {
		lattice, ok := impl.OrderLattice(p)
		wantNumber(t, "OrderLattice", lattice, ok, latticeOf(p))
		back, ok := impl.OrderLattice(mustPath(t, "PathBack", p, impl.PathBack))
		wantNumber(t, "OrderLattice of PathBack", back, ok, lattice)
		if lattice < 2 || lattice > 720 {
			t.Errorf("OrderLattice of %v is %d", p, lattice)
		}
	}
}

func TestOrderLatticeEdges(t *testing.T) {
	for _, c := range orderCases() {
		lattice, ok := impl.OrderLattice(c.path)
		wantNumber(t, "OrderLattice", lattice, ok, c.lattice)
	}
	cases := []struct {
		path [][]int
		want int
	}{
		{[][]int{{1, 0}, {2, 0}, {3, 0}, {-1, 0}, {-2, 0}, {-3, 0}}, 720},
		{[][]int{{1, 0}, {1, 1}, {0, 1}, {-1, 0}, {-1, -1}, {0, -1}}, 720},
		{[][]int{{1, 0}, {1, 0}, {0, 1}, {-1, 0}, {-1, 0}, {0, -1}}, 180},
		{[][]int{{1, 0}, {0, 1}, {-1, -1}, {1, 0}, {0, 1}, {-1, -1}}, 90},
		{[][]int{{1, 0}, {1, 0}, {1, 0}, {-1, 0}, {-1, 0}, {-1, 0}}, 20},
		{[][]int{{1, 1}, {1, 1}, {-5, -5}, {1, 1}, {1, 1}, {1, 1}}, 6},
		// x and y exchanged is another step, and so is one with other signs.
		{[][]int{{1, 2}, {2, 1}, {-1, -2}, {-2, -1}}, 24},
	}
	for _, c := range cases {
		lattice, ok := impl.OrderLattice(c.path)
		wantNumber(t, "OrderLattice", lattice, ok, c.want)
	}
	wantNumberless(t, "OrderLattice", slices.Concat(noPaths(), ofMore(ordersMax, paths())), impl.OrderLattice)
}

// Promise 66.

func TestPromise66ZonoPath(t *testing.T) {
	for _, star := range stars() {
		zono, ok := impl.ZonoPath(star)
		wantLists(t, "ZonoPath", zono, ok, zonoOf(star))
		half := len(zono) / 2
		for i, s := range zono[:half] {
			if next := zono[half+i]; next[0] != -s[0] || next[1] != -s[1] {
				t.Errorf("ZonoPath of %v is %v", star, zono)
			}
		}
		area, ok := impl.PathArea(zono)
		want, okWant := impl.ZonoArea(star)
		wantNumber(t, "PathArea of ZonoPath", area, ok && okWant, want)
	}
}

func TestZonoPathEdges(t *testing.T) {
	for _, c := range starCases() {
		zono, ok := impl.ZonoPath(c.star)
		wantLists(t, "ZonoPath", zono, ok, c.zono)
	}
	for _, s := range stepsOf(stepMax) {
		star := [][]int{s, {-4, 3}, s}
		zono, ok := impl.ZonoPath(star)
		wantLists(t, "ZonoPath", zono, ok, zonoOf(star))
	}
	for _, star := range noStars() {
		zono, ok := impl.ZonoPath(star)
		wantNoLists(t, "ZonoPath", zono, ok)
	}
}

// Promise 67.

func TestPromise67ZonoArea(t *testing.T) {
	for _, star := range stars() {
		area, ok := impl.ZonoArea(star)
		wantNumber(t, "ZonoArea", area, ok, 2*sumOf(crossesOf(star)))
		back, ok := impl.ZonoArea(backwards(star))
		wantNumber(t, "ZonoArea backwards", back, ok, area)
		pieces, ok := impl.ZonoPieces(star)
		if !ok || area%2 != 0 || (area == 0) != (pieces == 0) {
			t.Errorf("ZonoArea of %v is %d, ZonoPieces %d, %v", star, area, pieces, ok)
		}
	}
}

func TestZonoAreaEdges(t *testing.T) {
	for _, c := range starCases() {
		area, ok := impl.ZonoArea(c.star)
		wantNumber(t, "ZonoArea", area, ok, c.area)
	}
	great := [][]int{{9, 9}, {9, -9}, {-9, -9}, {-9, 9}}
	area, ok := impl.ZonoArea(great)
	wantNumber(t, "ZonoArea of great steps", area, ok, 2*4*162)
	for _, star := range lineStars() {
		area, ok := impl.ZonoArea(star)
		wantNumber(t, "ZonoArea of steps on one line", area, ok, 0)
	}
	wantNumberless(t, "ZonoArea", noStars(), impl.ZonoArea)
}

// Promise 68.

func TestPromise68ZonoPieces(t *testing.T) {
	for _, star := range stars() {
		crosses := crossesOf(star)
		want := len(slices.DeleteFunc(slices.Clone(crosses), func(cross int) bool { return cross == 0 }))
		pieces, ok := impl.ZonoPieces(star)
		wantNumber(t, "ZonoPieces", pieces, ok, want)
		convex := impl.PathConvex(mustPath(t, "ZonoPath", star, impl.ZonoPath))
		if pieces > len(crosses) || convex != (pieces != 0) || convex == onOneLine(star) {
			t.Errorf("ZonoPieces of %v is %d, PathConvex of ZonoPath %v", star, pieces, convex)
		}
	}
}

func TestZonoPiecesEdges(t *testing.T) {
	for _, c := range starCases() {
		pieces, ok := impl.ZonoPieces(c.star)
		wantNumber(t, "ZonoPieces", pieces, ok, c.pieces)
	}
	two := [][]int{{1, 2}, {2, 1}, {-2, -4}, {4, 2}}
	pieces, ok := impl.ZonoPieces(two)
	wantNumber(t, "ZonoPieces of two lines", pieces, ok, 4)
	for _, star := range lineStars() {
		pieces, ok := impl.ZonoPieces(star)
		wantNumber(t, "ZonoPieces of steps on one line", pieces, ok, 0)
	}
	wantNumberless(t, "ZonoPieces", noStars(), impl.ZonoPieces)
}

// Promise 69.

func TestPromise69ZonoInside(t *testing.T) {
	for i, star := range stars() {
		inside, ok := impl.ZonoInside(star)
		if onOneLine(star) {
			wantNoNumber(t, "ZonoInside of steps on one line", inside, ok)
			continue
		}
		zono := mustPath(t, "ZonoPath", star, impl.ZonoPath)
		want, okWant := impl.PathInside(zono)
		wantNumber(t, "ZonoInside", inside, ok && okWant, want)
		area, okArea := impl.ZonoArea(star)
		rim, okRim := impl.PathRim(zono)
		wantNumber(t, "ZonoArea by ZonoInside", area, okArea && okRim, 2*inside+rim-2)
		// The count by asking all points takes long, so it is made for some of them.
		if i%10 == 0 {
			all, ok := impl.PathInsideAll(zono)
			wantNumber(t, "PathInsideAll of ZonoPath", all, ok, inside)
		}
	}
}

func TestZonoInsideEdges(t *testing.T) {
	for _, c := range starCases() {
		inside, ok := impl.ZonoInside(c.star)
		if c.inside == notConvex {
			wantNoNumber(t, "ZonoInside", inside, ok)
			continue
		}
		wantNumber(t, "ZonoInside", inside, ok, c.inside)
	}
	wantNumberless(t, "ZonoInside", slices.Concat(lineStars(), noStars()), impl.ZonoInside)
}

// The general rules: no argument changes, and no memory is shared.

func TestOrderMemory(t *testing.T) {
	lists := slices.Concat(linePaths(), samePaths(), noPaths(), mixedPaths()[:60])
	for _, c := range orderCases() {
		lists = append(lists, c.path)
	}
	for _, p := range lists {
		wantOwnRows(t, "OrderSorted", p, func(p [][]int) [][]int {
			sorted, _ := impl.OrderSorted(p)
			return sorted
		})
		for _, places := range [][2]int{{0, 0}, {0, 2}, {1, 2}, {0, len(p) - 1}, {2, 1}, {-1, 2}} {
			wantOwnRows(t, "OrderRun", p, func(p [][]int) [][]int {
				run, _ := impl.OrderRun(p, places[0], places[1])
				return run
			})
		}
		wantOwnRows(t, "OrderMost and the others", p, func(p [][]int) [][]int {
			impl.OrderMost(p)
			impl.OrderGain(p, 0, 2)
			impl.OrderFewest(p)
			impl.OrderLattice(p)
			return nil
		})
	}
}

func TestZonoMemory(t *testing.T) {
	lists := slices.Concat(lineStars(), noStars(), mixedStars()[:60])
	for _, c := range starCases() {
		lists = append(lists, c.star)
	}
	for _, star := range lists {
		wantOwnRows(t, "ZonoPath", star, func(star [][]int) [][]int {
			zono, _ := impl.ZonoPath(star)
			return zono
		})
		wantOwnRows(t, "ZonoArea and the others", star, func(star [][]int) [][]int {
			impl.ZonoArea(star)
			impl.ZonoPieces(star)
			impl.ZonoInside(star)
			return nil
		})
	}
}

// A path and a star may have the same list as several of their steps.
func TestOrderSameStepTwice(t *testing.T) {
	right, left := []int{2, 1}, []int{-4, -2}
	wantOwnLists(t, "OrderSorted of the same step twice", func() [][]int {
		sorted, ok := impl.OrderSorted([][]int{left, right, right})
		wantLists(t, "OrderSorted", sorted, ok, [][]int{{2, 1}, {2, 1}, {-4, -2}})
		return sorted
	})
	wantOwnLists(t, "OrderRun of the same step twice", func() [][]int {
		run, ok := impl.OrderRun([][]int{left, right, right}, 0, 1)
		wantLists(t, "OrderRun", run, ok, [][]int{{2, 1}, {-4, -2}, {2, 1}})
		return run
	})
	wantOwnLists(t, "ZonoPath of the same step twice", func() [][]int {
		zono, ok := impl.ZonoPath([][]int{left, right, left})
		wantLists(t, "ZonoPath", zono, ok, [][]int{{4, 2}, {2, 1}, {4, 2}, {-4, -2}, {-2, -1}, {-4, -2}})
		return zono
	})
	if !slices.Equal(right, []int{2, 1}) || !slices.Equal(left, []int{-4, -2}) {
		t.Errorf("a step was changed, to %v or %v", right, left)
	}
}
