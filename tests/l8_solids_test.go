package tests

import (
	"math"
	"slices"
	"testing"

	"loop.example/closingsticks/impl"
)

// The limits are written out here, so that a changed constant is noticed.
const (
	edges         = 6
	corners       = 4
	edgeMax       = 12
	solidCountMax = 3
)

// lengthsOf returns the length between each two corners of a solid.
func lengthsOf(s []int) [corners][corners]int {
	return [corners][corners]int{
		{0, s[0], s[1], s[2]},
		{s[0], 0, s[3], s[4]},
		{s[1], s[3], 0, s[5]},
		{s[2], s[4], s[5], 0},
	}
}

// solidOf returns the solid with a length between each two corners.
func solidOf(lengths [corners][corners]int) []int {
	var s []int
	for i := range corners {
		s = append(s, lengths[i][i+1:]...)
	}
	return s
}

// determinant returns the determinant of rows of numbers.
func determinant(rows [][]int) int {
	if len(rows) == 0 {
		return 1
	}
	sum, sign := 0, 1
	for at, x := range rows[0] {
		var smaller [][]int
		for _, row := range rows[1:] {
			smaller = append(smaller, slices.Delete(slices.Clone(row), at, at+1))
		}
		sum += sign * x * determinant(smaller)
		sign = -sign
	}
	return sum
}

// numberOf returns the number of a solid as half of the determinant of the squares of its
// lengths with a border of ones, which is 288 times the square of the volume.
func numberOf(s []int) int {
	rows := [][]int{{0, 1, 1, 1, 1}}
	for _, lengths := range lengthsOf(s) {
		row := []int{1}
		for _, x := range lengths {
			row = append(row, x*x)
		}
		rows = append(rows, row)
	}
	return determinant(rows) / 2
}

// facesOf returns the number of faces of a solid that are triangles.
func facesOf(s []int) int {
	lengths := lengthsOf(s)
	faces := 0
	for k := range corners {
		for j := range k {
			for i := range j {
				if sides(lengths[i][j], lengths[i][k], lengths[j][k]) {
					faces++
				}
			}
		}
	}
	return faces
}

// standsOf tells whether four corners may be put into space with the lengths of a solid
// between them and not into a plane: each one is put after the ones ahead of it.
func standsOf(s []int) bool {
	square := func(x int) float64 { return float64(x * x) }
	// What is not 0 here is far greater than this.
	const tiny = 1e-7
	x1 := float64(s[0])
	x2 := (square(s[0]) + square(s[1]) - square(s[3])) / (2 * x1)
	y2 := square(s[1]) - x2*x2
	if y2 < tiny {
		return false
	}
	y2 = math.Sqrt(y2)
	x3 := (square(s[0]) + square(s[2]) - square(s[4])) / (2 * x1)
	y3 := (square(s[1]) + square(s[2]) - square(s[5]) - 2*x2*x3) / (2 * y2)
	return square(s[2])-x3*x3-y3*y3 > tiny
}

// namedOf returns a solid with its corners in the order of a list.
func namedOf(s []int, c []int) []int {
	lengths := lengthsOf(s)
	var named [corners][corners]int
	for i := range corners {
		for j := range corners {
			named[i][j] = lengths[c[i]][c[j]]
		}
	}
	return solidOf(named)
}

// cornerOrders are all orders of the four corners.
var cornerOrders = placeOrders(corners)

// firstOf returns the first one of all solids that have the corners in another order.
func firstOf(s []int) []int {
	first := s
	for _, c := range cornerOrders {
		if named := namedOf(s, c); slices.Compare(named, first) < 0 {
			first = named
		}
	}
	return first
}

// standingAt returns all lengths at a place of a solid with which it stands.
func standingAt(s []int, at int) []int {
	var standing []int
	for x := 1; x <= edgeMax; x++ {
		if standsOf(with(s, at, x)) {
			standing = append(standing, x)
		}
	}
	return standing
}

// with returns a list with a number in place of the one at a place.
func with(list []int, at int, x int) []int {
	changed := slices.Clone(list)
	changed[at] = x
	return changed
}

// mixedSolids returns solids with lengths of all sizes.
func mixedSolids() [][]int {
	state := uint64(8)
	var all [][]int
	for range 2000 {
		var s []int
		for range edges {
			state = state*6364136223846793005 + 1442695040888963407
			s = append(s, int(state>>33)%edgeMax+1)
		}
		all = append(all, s)
	}
	return all
}

// nearSolids returns solids with lengths that differ a little only, many of which stand.
func nearSolids() [][]int {
	var all [][]int
	for i, s := range mixedSolids() {
		var near []int
		for _, x := range s {
			near = append(near, 1+i%8+x%5)
		}
		all = append(all, near)
	}
	return all
}

// flatSolids returns solids with just one face that is flat, each face in turn, by each
// of its lengths.
func flatSolids() [][]int {
	faces := [corners][3]int{{3, 4, 5}, {1, 2, 5}, {0, 2, 4}, {0, 1, 3}}
	var all [][]int
	for long := 2; long <= edgeMax; long++ {
		for short := 1; short < long; short++ {
			for _, face := range faces {
				for at := range face {
					// Other faces have two of the greatest lengths, so they are triangles.
					s := slices.Repeat([]int{edgeMax}, edges)
					s[face[at]], s[face[(at+1)%3]], s[face[(at+2)%3]] = long, short, long-short
					all = append(all, s)
				}
			}
		}
	}
	return all
}

// lineSolids returns solids with all corners on one line, so that all faces are flat.
func lineSolids() [][]int {
	var all [][]int
	for _, at := range listsOf([]int{0, 1, 2, 3, 5, 8, 12}, corners) {
		s := []int{at[1] - at[0], at[2] - at[0], at[3] - at[0], at[2] - at[1], at[3] - at[1], at[3] - at[2]}
		for i, x := range s {
			s[i] = max(x, -x)
		}
		if !slices.Contains(s, 0) {
			all = append(all, s)
		}
	}
	return all
}

// solidCase is a solid and what is told of it.
type solidCase struct {
	solid         []int
	number, faces int
	stands        bool
	first         []int
}

// solidCases are solids that stand, flat ones, and ones that are none in space.
func solidCases() []solidCase {
	return []solidCase{
		{[]int{1, 1, 1, 1, 1, 1}, 2, 4, true, []int{1, 1, 1, 1, 1, 1}},
		{[]int{2, 2, 2, 3, 3, 3}, 243, 4, true, []int{2, 2, 2, 3, 3, 3}},
		{[]int{3, 3, 3, 2, 2, 2}, 368, 4, true, []int{2, 2, 3, 2, 3, 3}},
		{[]int{12, 12, 12, 12, 12, 12}, 5971968, 4, true, []int{12, 12, 12, 12, 12, 12}},
		{[]int{12, 12, 12, 1, 1, 1}, 431, 4, true, []int{1, 1, 12, 1, 12, 12}},
		{[]int{12, 12, 12, 12, 12, 1}, 62064, 4, true, []int{1, 12, 12, 12, 12, 12}},
		{[]int{6, 5, 5, 5, 5, 3}, 17820, 4, true, []int{3, 5, 5, 5, 5, 6}},
		{[]int{6, 8, 5, 10, 5, 6}, 46332, 4, true, []int{5, 5, 6, 6, 8, 10}},
		// The same lengths three times with the corners named otherwise, and once put otherwise.
		{[]int{7, 8, 9, 10, 11, 12}, 997259, 4, true, []int{7, 8, 9, 10, 11, 12}},
		{[]int{7, 9, 8, 11, 10, 12}, 997259, 4, true, []int{7, 8, 9, 10, 11, 12}},
		{[]int{8, 7, 9, 10, 12, 11}, 997259, 4, true, []int{7, 8, 9, 10, 11, 12}},
		{[]int{7, 8, 9, 11, 10, 12}, 952991, 4, true, []int{7, 8, 9, 11, 10, 12}},
		// In a plane without a flat face: two rectangles.
		{[]int{3, 5, 4, 4, 5, 3}, 0, 4, false, []int{3, 4, 5, 5, 4, 3}},
		{[]int{6, 8, 10, 10, 8, 6}, 0, 4, false, []int{6, 8, 10, 10, 8, 6}},
		// In a plane with one flat face, of which the corner 1 is halfway.
		{[]int{3, 6, 5, 3, 4, 5}, 0, 3, false, []int{3, 3, 4, 6, 5, 5}},
		// On one line.
		{[]int{1, 3, 7, 2, 6, 4}, 0, 0, false, []int{1, 2, 6, 3, 7, 4}},
		{[]int{1, 2, 3, 1, 2, 1}, 0, 0, false, []int{1, 1, 2, 2, 1, 3}},
		// Flat faces that do not fit together.
		{[]int{1, 1, 1, 1, 1, 2}, -4, 2, false, []int{1, 1, 1, 1, 1, 2}},
		{[]int{2, 1, 3, 3, 1, 2}, -576, 0, false, []int{1, 2, 3, 3, 2, 1}},
		// All faces are triangles, but they do not fit together.
		{[]int{11, 11, 6, 11, 6, 6}, -190333, 4, false, []int{6, 6, 6, 11, 11, 11}},
		// The number is positive though no face is a triangle.
		{[]int{3, 1, 7, 1, 1, 4}, 1584, 0, false, []int{1, 1, 3, 4, 1, 7}},
		{[]int{1, 1, 1, 12, 12, 12}, -2923776, 1, false, []int{1, 1, 1, 12, 12, 12}},
		{[]int{1, 2, 3, 4, 5, 6}, -6169, 1, false, []int{1, 2, 3, 4, 5, 6}},
		{[]int{1, 2, 2, 2, 2, 12}, -18576, 2, false, []int{1, 2, 2, 2, 2, 12}},
		{[]int{3, 1, 1, 1, 1, 1}, -54, 2, false, []int{1, 1, 1, 1, 1, 3}},
	}
}

// caseSolids returns the solids of the cases.
func caseSolids() [][]int {
	var all [][]int
	for _, c := range solidCases() {
		all = append(all, c.solid)
	}
	return all
}

// solids returns solids of all kinds: all small ones, and ones with lengths of both ends.
func solids() [][]int {
	return slices.Concat(
		listsOf([]int{1, 2, 3}, edges), listsOf([]int{1, 2, 11, 12}, edges),
		mixedSolids(), nearSolids(), flatSolids(), lineSolids(), caseSolids())
}

// noSolids returns lists that are no solids, each for one reason.
func noSolids() [][]int {
	all := [][]int{
		nil,
		{},
		{1},
		{3, 4, 5},
		{2, 2, 2, 2, 2},
		{2, 2, 2, 2, 2, 2, 2},
		{12, 12, 12, 12, 12},
		{1, 1, 1, 1, 1, 1, 0},
		{0, 0, 0, 0, 0, 0},
		{13, 13, 13, 13, 13, 13},
		{-2, -2, -2, -2, -2, -2},
		slices.Repeat([]int{math.MaxInt}, edges),
		slices.Repeat([]int{math.MinInt}, edges),
		slices.Repeat([]int{2}, 1000),
		make([]int, 1000),
	}
	for at := range edges {
		for _, x := range []int{math.MinInt, -1, 0, 13, 60, math.MaxInt} {
			all = append(all, with([]int{5, 5, 5, 5, 5, 5}, at, x))
		}
	}
	return all
}

// noNamings returns lists that do not have each corner once, each for one reason.
func noNamings() [][]int {
	return [][]int{
		nil,
		{},
		{0},
		{0, 1, 2},
		{1, 2, 3},
		{0, 1, 2, 3, 0},
		{0, 1, 2, 3, 3},
		{0, 1, 2, 3, 4},
		{0, 1, 2, 3, 0, 1, 2, 3},
		{1, 2, 3, 4},
		{0, 1, 2, 4},
		{-1, 0, 1, 2},
		{-1, 1, 2, 3},
		{0, 0, 1, 2},
		{0, 1, 2, 2},
		{3, 3, 3, 3},
		{0, 1, 2, math.MaxInt},
		{math.MinInt, 1, 2, 3},
		make([]int, 4),
		make([]int, 1000),
	}
}

// mustNumber returns SolidNumber of a list that is a solid.
func mustNumber(t *testing.T, s []int) int {
	t.Helper()
	number, ok := impl.SolidNumber(s)
	if !ok {
		t.Fatalf("SolidNumber of %v failed", s)
	}
	return number
}

// mustNamed returns SolidNamed of a solid and a list that has each corner once.
func mustNamed(t *testing.T, s []int, c []int) []int {
	t.Helper()
	named, ok := impl.SolidNamed(s, c)
	if !ok {
		t.Fatalf("SolidNamed of %v with %v failed", s, c)
	}
	return named
}

// mustFirst returns SolidFirst of a list that is a solid.
func mustFirst(t *testing.T, s []int) []int {
	t.Helper()
	first, ok := impl.SolidFirst(s)
	if !ok {
		t.Fatalf("SolidFirst of %v failed", s)
	}
	return first
}

// Promise 70.

func TestPromise70SolidIn(t *testing.T) {
	for _, s := range solids() {
		if !impl.SolidIn(s) {
			t.Errorf("SolidIn of %v does not hold", s)
		}
		named := mustNamed(t, s, []int{3, 2, 1, 0})
		if !impl.SolidIn(named) || !slices.Equal(named, []int{s[5], s[4], s[2], s[3], s[1], s[0]}) {
			t.Errorf("SolidNamed of %v with 3 2 1 0 is %v", s, named)
		}
	}
}

func TestSolidInEdges(t *testing.T) {
	for _, s := range listsOf([]int{0, 1, 12, 13}, edges) {
		want := !slices.Contains(s, 0) && !slices.Contains(s, 13)
		if got := impl.SolidIn(s); got != want {
			t.Errorf("SolidIn of %v is %v", s, got)
		}
	}
	for x := -1; x <= 14; x++ {
		if got := impl.SolidIn(slices.Repeat([]int{x}, edges)); got != (x >= 1 && x <= edgeMax) {
			t.Errorf("SolidIn of six lengths %d is %v", x, got)
		}
	}
	for _, s := range noSolids() {
		if impl.SolidIn(s) {
			t.Errorf("SolidIn of %v holds", s)
		}
	}
}

// Promise 71.

func TestPromise71SolidNumber(t *testing.T) {
	for _, s := range solids() {
		number, ok := impl.SolidNumber(s)
		wantNumber(t, "SolidNumber", number, ok, numberOf(s))
		for _, c := range [][]int{{1, 2, 3, 0}, {0, 2, 1, 3}} {
			if got := mustNumber(t, mustNamed(t, s, c)); got != number {
				t.Errorf("SolidNumber of %v is %d, with the corners %v %d", s, number, c, got)
			}
		}
	}
}

func TestSolidNumberEdges(t *testing.T) {
	for _, c := range solidCases() {
		number, ok := impl.SolidNumber(c.solid)
		wantNumber(t, "SolidNumber", number, ok, c.number)
	}
	for _, s := range flatSolids() {
		if number := mustNumber(t, s); number > 0 {
			t.Errorf("SolidNumber of %v, which has a flat face, is %d", s, number)
		}
	}
	for _, s := range lineSolids() {
		number, ok := impl.SolidNumber(s)
		wantNumber(t, "SolidNumber of corners on one line", number, ok, 0)
	}
	for _, s := range noSolids() {
		number, ok := impl.SolidNumber(s)
		wantNoNumber(t, "SolidNumber", number, ok)
	}
}

// Promises 72 and 78.

func TestPromise72SolidNumberOfEqualLengths(t *testing.T) {
	for n := 1; n <= edgeMax; n++ {
		number, ok := impl.SolidNumber(slices.Repeat([]int{n}, edges))
		wantNumber(t, "SolidNumber of equal lengths", number, ok, 2*n*n*n*n*n*n)
		if _, ok := impl.SolidCount(n); ok != (n <= solidCountMax) {
			t.Errorf("SolidCount of %d returned %v", n, ok)
		}
	}
}

func TestPromise78SolidCount(t *testing.T) {
	before := 0
	for n := 1; n <= solidCountMax; n++ {
		firsts := map[[edges]int]bool{}
		for _, s := range solids() {
			if slices.Max(s) <= n && standsOf(s) {
				firsts[[edges]int(firstOf(s))] = true
			}
		}
		count, ok := impl.SolidCount(n)
		wantNumber(t, "SolidCount", count, ok, len(firsts))
		if count < n || count <= before {
			t.Errorf("SolidCount of %d is %d, and of one less %d", n, count, before)
		}
		before = count
	}
}

func TestSolidCountEdges(t *testing.T) {
	for at, want := range []int{1, 5, 21} {
		count, ok := impl.SolidCount(at + 1)
		wantNumber(t, "SolidCount", count, ok, want)
	}
	for _, n := range []int{math.MinInt, -1, 0, 4, 5, 12, 13, 60, math.MaxInt} {
		count, ok := impl.SolidCount(n)
		wantNoNumber(t, "SolidCount", count, ok)
	}
}

// Promise 73.

func TestPromise73SolidFaces(t *testing.T) {
	for _, s := range solids() {
		faces, ok := impl.SolidFaces(s)
		wantNumber(t, "SolidFaces", faces, ok, facesOf(s))
		all := impl.StickThree(s[3], s[4], s[5]) && impl.StickThree(s[1], s[2], s[5]) &&
			impl.StickThree(s[0], s[2], s[4]) && impl.StickThree(s[0], s[1], s[3])
		if (faces == corners) != all {
			t.Errorf("SolidFaces of %v is %d, StickThree holds for all: %v", s, faces, all)
		}
		first, ok := impl.SolidFaces(mustFirst(t, s))
		wantNumber(t, "SolidFaces of SolidFirst", first, ok, faces)
	}
}

func TestSolidFacesEdges(t *testing.T) {
	for _, c := range solidCases() {
		faces, ok := impl.SolidFaces(c.solid)
		wantNumber(t, "SolidFaces", faces, ok, c.faces)
	}
	for _, s := range flatSolids() {
		faces, ok := impl.SolidFaces(s)
		wantNumber(t, "SolidFaces with one flat face", faces, ok, 3)
	}
	for _, s := range lineSolids() {
		faces, ok := impl.SolidFaces(s)
		wantNumber(t, "SolidFaces of corners on one line", faces, ok, 0)
	}
	for _, s := range noSolids() {
		faces, ok := impl.SolidFaces(s)
		wantNoNumber(t, "SolidFaces", faces, ok)
	}
}

// Promise 74.

func TestPromise74SolidStands(t *testing.T) {
	for _, s := range solids() {
		stands := impl.SolidStands(s)
		if stands != standsOf(s) {
			t.Errorf("SolidStands of %v is %v", s, stands)
		}
		if impl.SolidStands(mustFirst(t, s)) != stands {
			t.Errorf("SolidStands of %v is %v, and not that of SolidFirst", s, stands)
		}
		if faces, ok := impl.SolidFaces(s); stands && (mustNumber(t, s) <= 0 || faces != corners || !ok) {
			t.Errorf("%v stands with %d faces and the number %d", s, faces, mustNumber(t, s))
		}
	}
}

func TestSolidStandsEdges(t *testing.T) {
	for _, c := range solidCases() {
		if got := impl.SolidStands(c.solid); got != c.stands {
			t.Errorf("SolidStands of %v is %v", c.solid, got)
		}
	}
	for _, s := range slices.Concat(flatSolids(), lineSolids()) {
		if impl.SolidStands(s) {
			t.Errorf("SolidStands of %v, which has a flat face, holds", s)
		}
	}
	for _, s := range noSolids() {
		if impl.SolidStands(s) {
			t.Errorf("SolidStands of %v holds", s)
		}
	}
}

// Promise 75.

func TestPromise75SolidNamed(t *testing.T) {
	for _, s := range solids() {
		for _, c := range cornerOrders {
			named, ok := impl.SolidNamed(s, c)
			wantList(t, "SolidNamed", named, ok, namedOf(s, c))
			if !impl.SolidSame(named, s) {
				t.Errorf("SolidSame of %v and SolidNamed with %v does not hold", s, c)
			}
			var places []int
			for corner := range corners {
				places = append(places, slices.Index(c, corner))
			}
			back, ok := impl.SolidNamed(named, places)
			wantList(t, "SolidNamed back", back, ok, s)
		}
	}
}

func TestSolidNamedEdges(t *testing.T) {
	different := []int{1, 2, 3, 4, 5, 6}
	cases := []struct {
		corners, want []int
	}{
		{[]int{0, 1, 2, 3}, []int{1, 2, 3, 4, 5, 6}},
		{[]int{1, 0, 2, 3}, []int{1, 4, 5, 2, 3, 6}},
		{[]int{0, 1, 3, 2}, []int{1, 3, 2, 5, 4, 6}},
		{[]int{3, 2, 1, 0}, []int{6, 5, 3, 4, 2, 1}},
		// Turns of more than two corners, which are not their own ways back.
		{[]int{1, 2, 3, 0}, []int{4, 5, 1, 6, 2, 3}},
		{[]int{3, 0, 1, 2}, []int{3, 5, 6, 1, 2, 4}},
		{[]int{1, 2, 0, 3}, []int{4, 1, 5, 2, 6, 3}},
		{[]int{2, 0, 1, 3}, []int{2, 4, 6, 1, 3, 5}},
	}
	for _, c := range cases {
		named, ok := impl.SolidNamed(different, c.corners)
		wantList(t, "SolidNamed", named, ok, c.want)
	}
	for _, c := range listsOf([]int{-1, 0, 1, 2, 3, 4}, corners) {
		want := slices.ContainsFunc(cornerOrders, func(order []int) bool { return slices.Equal(order, c) })
		if _, ok := impl.SolidNamed(different, c); ok != want {
			t.Errorf("SolidNamed with %v returned %v", c, ok)
		}
	}
}

func TestSolidNamedInvalid(t *testing.T) {
	for _, c := range noNamings() {
		named, ok := impl.SolidNamed([]int{2, 2, 2, 3, 3, 3}, c)
		wantNoList(t, "SolidNamed", named, ok)
	}
	for _, s := range noSolids() {
		for _, c := range slices.Concat(cornerOrders, noNamings()) {
			named, ok := impl.SolidNamed(s, c)
			wantNoList(t, "SolidNamed", named, ok)
		}
	}
}

// Promise 76.

func TestPromise76SolidFirst(t *testing.T) {
	for _, s := range solids() {
		first, ok := impl.SolidFirst(s)
		wantList(t, "SolidFirst", first, ok, firstOf(s))
		again, ok := impl.SolidFirst(first)
		wantList(t, "SolidFirst of SolidFirst", again, ok, first)
		if first[0] != slices.Min(s) {
			t.Errorf("SolidFirst of %v is %v", s, first)
		}
	}
}

func TestSolidFirstEdges(t *testing.T) {
	for _, c := range solidCases() {
		first, ok := impl.SolidFirst(c.solid)
		wantList(t, "SolidFirst", first, ok, c.first)
	}
	// Each of the 24 orders of the corners is the only one that leads to the first solid.
	for _, c := range cornerOrders {
		first, ok := impl.SolidFirst(namedOf([]int{1, 2, 3, 4, 5, 6}, c))
		wantList(t, "SolidFirst", first, ok, []int{1, 2, 3, 4, 5, 6})
	}
	for _, s := range noSolids() {
		first, ok := impl.SolidFirst(s)
		wantNoList(t, "SolidFirst", first, ok)
	}
}

// Promise 77.

// checkSame checks SolidSame of two solids, and what it promises.
func checkSame(t *testing.T, one []int, other []int) {
	t.Helper()
	same := impl.SolidSame(one, other)
	if same != slices.Equal(firstOf(one), firstOf(other)) || same != impl.SolidSame(other, one) {
		t.Errorf("SolidSame of %v and %v is %v", one, other, same)
	}
	if same && (mustNumber(t, one) != mustNumber(t, other) || impl.SolidStands(one) != impl.SolidStands(other)) {
		t.Errorf("%v and %v are the same, but not SolidNumber or SolidStands", one, other)
	}
}

func TestPromise77SolidSame(t *testing.T) {
	small := listsOf([]int{1, 2}, edges)
	for _, one := range small {
		for _, other := range small {
			checkSame(t, one, other)
		}
	}
	all := solids()
	for i, one := range all {
		checkSame(t, one, one)
		checkSame(t, one, all[(i+1)%len(all)])
		checkSame(t, one, namedOf(one, cornerOrders[i%len(cornerOrders)]))
		// The lengths in any other order are the same solid at times only.
		checkSame(t, one, slices.Sorted(slices.Values(one)))
		checkSame(t, one, with(one, i%edges, 1+one[i%edges]%edgeMax))
	}
}

func TestSolidSameEdges(t *testing.T) {
	cases := []struct {
		one, other []int
		want       bool
	}{
		{[]int{7, 8, 9, 10, 11, 12}, []int{7, 9, 8, 11, 10, 12}, true},
		{[]int{7, 8, 9, 10, 11, 12}, []int{7, 8, 9, 11, 10, 12}, false},
		{[]int{7, 8, 9, 10, 11, 12}, []int{12, 11, 9, 10, 8, 7}, true},
		{[]int{7, 8, 9, 10, 11, 12}, []int{12, 11, 10, 9, 8, 7}, false},
		// The same lengths at one corner, or around one face.
		{[]int{2, 2, 2, 3, 3, 3}, []int{3, 3, 2, 3, 2, 2}, true},
		{[]int{2, 2, 2, 3, 3, 3}, []int{3, 3, 3, 2, 2, 2}, false},
		{[]int{2, 2, 3, 2, 3, 3}, []int{3, 3, 3, 2, 2, 2}, true},
		// Two lengths at one corner, or apart.
		{[]int{2, 2, 1, 1, 1, 1}, []int{1, 1, 1, 1, 2, 2}, true},
		{[]int{2, 1, 1, 1, 1, 2}, []int{1, 2, 1, 1, 2, 1}, true},
		{[]int{2, 2, 1, 1, 1, 1}, []int{2, 1, 1, 1, 1, 2}, false},
		// Solids that do not stand.
		{[]int{1, 1, 1, 12, 12, 12}, []int{12, 12, 1, 12, 1, 1}, true},
		{[]int{3, 5, 4, 4, 5, 3}, []int{5, 3, 4, 4, 3, 5}, true},
		// The same number, but not the same lengths.
		{[]int{1, 3, 7, 2, 6, 4}, []int{1, 2, 3, 1, 2, 1}, false},
	}
	for _, c := range cases {
		if got := impl.SolidSame(c.one, c.other); got != c.want {
			t.Errorf("SolidSame of %v and %v is %v", c.one, c.other, got)
		}
		checkSame(t, c.one, c.other)
	}
}

func TestSolidSameInvalid(t *testing.T) {
	for _, one := range noSolids() {
		for _, s := range caseSolids() {
			if impl.SolidSame(one, s) || impl.SolidSame(s, one) {
				t.Errorf("SolidSame of %v and %v holds", one, s)
			}
		}
		for _, other := range noSolids() {
			if impl.SolidSame(one, other) {
				t.Errorf("SolidSame of %v and %v holds", one, other)
			}
		}
	}
}

// Promise 79.

func TestPromise79SolidLeast(t *testing.T) {
	for _, s := range solids() {
		for at := range edges {
			least, greatest, ok := impl.SolidLeast(s, at)
			standing := standingAt(s, at)
			if len(standing) == 0 {
				wantNoPair(t, "SolidLeast", least, greatest, ok)
				continue
			}
			wantPair(t, "SolidLeast", least, greatest, ok, [2]int{standing[0], standing[len(standing)-1]})
			for x := -1; x <= edgeMax+2; x++ {
				if impl.SolidStands(with(s, at, x)) != (x >= least && x <= greatest) {
					t.Errorf("SolidLeast of %v at %d is %d, %d, but not for %d", s, at, least, greatest, x)
				}
			}
		}
	}
}

func TestSolidLeastEdges(t *testing.T) {
	cases := []struct {
		solid []int
		at    int
		want  [2]int
	}{
		{[]int{1, 1, 1, 1, 1, 1}, 0, [2]int{1, 1}},
		{[]int{2, 2, 2, 2, 2, 2}, 3, [2]int{1, 3}},
		{[]int{3, 3, 3, 3, 3, 3}, 5, [2]int{1, 5}},
		{[]int{12, 12, 12, 12, 12, 12}, 2, [2]int{1, 12}},
		// The length at the place itself is not asked.
		{[]int{12, 1, 1, 1, 1, 1}, 0, [2]int{1, 1}},
		{[]int{1, 2, 2, 2, 2, 12}, 5, [2]int{1, 3}},
		// In a plane with the length 8, 6 or 5.
		{[]int{6, 5, 5, 5, 5, 1}, 5, [2]int{1, 7}},
		{[]int{8, 5, 5, 5, 5, 1}, 5, [2]int{1, 5}},
		{[]int{6, 8, 5, 10, 5, 5}, 5, [2]int{6, 12}},
		// In a plane as a rectangle, with its side or its diagonal told.
		{[]int{3, 5, 4, 4, 5, 3}, 0, [2]int{4, 8}},
		{[]int{3, 5, 4, 4, 5, 3}, 1, [2]int{2, 4}},
		{[]int{3, 5, 4, 4, 5, 3}, 2, [2]int{5, 7}},
		{[]int{3, 5, 4, 4, 5, 3}, 3, [2]int{5, 7}},
		{[]int{3, 5, 4, 4, 5, 3}, 4, [2]int{2, 4}},
		{[]int{3, 5, 4, 4, 5, 3}, 5, [2]int{4, 8}},
		// One face is flat until its length changes.
		{[]int{3, 6, 5, 3, 4, 5}, 1, [2]int{1, 5}},
		{[]int{12, 12, 12, 12, 12, 1}, 4, [2]int{12, 12}},
	}
	for _, c := range cases {
		least, greatest, ok := impl.SolidLeast(c.solid, c.at)
		wantPair(t, "SolidLeast", least, greatest, ok, c.want)
	}
}

func TestSolidLeastNone(t *testing.T) {
	cases := []struct {
		solid []int
		at    int
	}{
		// A face that is flat, and not at the place.
		{[]int{3, 6, 5, 3, 4, 5}, 2},
		{[]int{3, 6, 5, 3, 4, 5}, 5},
		// A face that is not even flat, and not at the place.
		{[]int{1, 1, 9, 9, 1, 9}, 1},
		{[]int{12, 1, 12, 12, 1, 1}, 4},
		// Lengths that would do are between two whole numbers.
		{[]int{3, 6, 12, 8, 10, 7}, 5},
		{[]int{3, 7, 11, 9, 9, 7}, 5},
	}
	for _, c := range cases {
		least, greatest, ok := impl.SolidLeast(c.solid, c.at)
		wantNoPair(t, "SolidLeast", least, greatest, ok)
	}
	for _, s := range lineSolids() {
		for at := range edges {
			least, greatest, ok := impl.SolidLeast(s, at)
			wantNoPair(t, "SolidLeast of corners on one line", least, greatest, ok)
		}
	}
}

func TestSolidLeastInvalid(t *testing.T) {
	for _, s := range caseSolids() {
		for _, at := range []int{math.MinInt, -2, -1, 6, 7, 12, math.MaxInt} {
			least, greatest, ok := impl.SolidLeast(s, at)
			wantNoPair(t, "SolidLeast", least, greatest, ok)
		}
	}
	for _, s := range noSolids() {
		for at := -1; at <= edges; at++ {
			least, greatest, ok := impl.SolidLeast(s, at)
			wantNoPair(t, "SolidLeast", least, greatest, ok)
		}
	}
}

// The general rules: no argument changes, and no memory is shared.

func TestSolidMemory(t *testing.T) {
	for _, s := range slices.Concat(caseSolids(), noSolids(), mixedSolids()[:60]) {
		wantOwn(t, "SolidFirst", s, func(s []int) []int {
			first, _ := impl.SolidFirst(s)
			return first
		})
		for _, c := range slices.Concat(cornerOrders, noNamings()) {
			wantOwn(t, "SolidNamed", s, func(s []int) []int {
				named, _ := impl.SolidNamed(s, c)
				return named
			})
		}
		wantOwn(t, "SolidNumber and the others", s, func(s []int) []int {
			impl.SolidIn(s)
			impl.SolidNumber(s)
			impl.SolidFaces(s)
			impl.SolidStands(s)
			impl.SolidSame(s, s)
			impl.SolidLeast(s, 5)
			return nil
		})
	}
}

func TestSolidNamesMemory(t *testing.T) {
	for _, c := range slices.Concat(cornerOrders, noNamings()) {
		wantOwn(t, "SolidNamed with other names", c, func(c []int) []int {
			named, _ := impl.SolidNamed([]int{7, 8, 9, 10, 11, 12}, c)
			return named
		})
	}
}
