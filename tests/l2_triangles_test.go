package tests

import (
	"math"
	"slices"
	"testing"

	"loop.example/closingsticks/impl"
)

// noRounds returns numbers of which no triangles are told.
func noRounds() []int {
	return []int{math.MinInt, -60, -3, -1, 0, 61, 62, 120, 180, math.MaxInt}
}

// ofRound returns all triangles with the round p, found among all there are.
func ofRound(p int) [][]int {
	var all [][]int
	for _, a := range allTriangles(lengthMax / 2) {
		if sumOf(a) == p {
			all = append(all, a)
		}
	}
	return all
}

// mustCount returns TriCount of a round that it succeeds for.
func mustCount(t *testing.T, p int) int {
	t.Helper()
	n, ok := impl.TriCount(p)
	if !ok {
		t.Fatalf("TriCount of %d failed", p)
	}
	return n
}

// mustArea returns TriArea of a list that it succeeds for.
func mustArea(t *testing.T, a []int) int {
	t.Helper()
	n, ok := impl.TriArea(a)
	if !ok {
		t.Fatalf("TriArea of %v failed", a)
	}
	return n
}

// mustKind returns TriKind of a list that it succeeds for.
func mustKind(t *testing.T, a []int) string {
	t.Helper()
	kind, ok := impl.TriKind(a)
	if !ok {
		t.Fatalf("TriKind of %v failed", a)
	}
	return kind
}

// times returns a list with all numbers k times.
func times(a []int, k int) []int {
	b := slices.Clone(a)
	for i := range b {
		b[i] *= k
	}
	return b
}

// rootOf returns the whole number whose square a number is, and whether there is one.
func rootOf(x int) (int, bool) {
	root := int(math.Round(math.Sqrt(float64(x))))
	return root, root*root == x
}

// Promise 13.

func TestPromise13TriAll(t *testing.T) {
	for p := 1; p <= 60; p++ {
		all, ok := impl.TriAll(p)
		wantLists(t, "TriAll", all, ok, ofRound(p))
		if !slices.IsSortedFunc(all, slices.Compare) {
			t.Errorf("TriAll of %d does not come in order: %v", p, all)
		}
		for _, a := range all {
			if sumOf(a) != p || !impl.StickThree(a[0], a[1], a[2]) {
				t.Errorf("TriAll of %d has %v", p, a)
			}
		}
	}
}

func TestTriAllEdges(t *testing.T) {
	cases := []struct {
		round int
		want  [][]int
	}{
		{1, nil},
		{2, nil},
		{3, [][]int{{1, 1, 1}}},
		{4, nil},
		{5, [][]int{{1, 2, 2}}},
		{6, [][]int{{2, 2, 2}}},
		{7, [][]int{{1, 3, 3}, {2, 2, 3}}},
		{8, [][]int{{2, 3, 3}}},
		{9, [][]int{{1, 4, 4}, {2, 3, 4}, {3, 3, 3}}},
		{12, [][]int{{2, 5, 5}, {3, 4, 5}, {4, 4, 4}}},
	}
	for _, c := range cases {
		all, ok := impl.TriAll(c.round)
		wantLists(t, "TriAll", all, ok, c.want)
	}
	last, ok := impl.TriAll(60)
	if !ok || len(last) != 75 || !slices.Equal(last[0], []int{2, 29, 29}) || !slices.Equal(last[74], []int{20, 20, 20}) {
		t.Errorf("TriAll of 60 returned %v, %v", last, ok)
	}
	for _, p := range noRounds() {
		all, ok := impl.TriAll(p)
		wantNoLists(t, "TriAll", all, ok)
	}
}

// Promise 14.

func TestPromise14TriCount(t *testing.T) {
	for p := 1; p <= 60; p++ {
		all, _ := impl.TriAll(p)
		round, ok := impl.TriRound(p)
		wantNumber(t, "TriRound", round, ok, len(ofRound(p)))
		count, ok := impl.TriCount(p)
		wantNumber(t, "TriCount", count, ok, len(all))
		wantNumber(t, "TriCount as TriRound", count, ok, round)
	}
}

func TestTriCountEdges(t *testing.T) {
	for i, want := range []int{0, 0, 1, 0, 1, 1, 2, 1, 3, 2, 4, 3} {
		count, ok := impl.TriCount(i + 1)
		wantNumber(t, "TriCount", count, ok, want)
	}
	count, ok := impl.TriCount(60)
	wantNumber(t, "TriCount", count, ok, 75)
	for _, p := range noRounds() {
		count, ok := impl.TriCount(p)
		wantNoNumber(t, "TriCount", count, ok)
	}
}

// Promise 15.

func TestPromise15TriRound(t *testing.T) {
	for p := 4; p <= 60; p += 2 {
		less, ok := impl.TriRound(p - 3)
		if !ok {
			t.Errorf("TriRound of %d failed", p-3)
		}
		round, ok := impl.TriRound(p)
		wantNumber(t, "TriRound", round, ok, less)
	}
}

func TestTriRoundNearest(t *testing.T) {
	for p := 1; p <= 60; p++ {
		root := float64(p + p%2*3)
		round, ok := impl.TriRound(p)
		wantNumber(t, "TriRound", round, ok, int(math.Round(root*root/48)))
	}
}

func TestTriRoundEdges(t *testing.T) {
	for i, want := range []int{0, 0, 1, 0, 1, 1, 2, 1, 3, 2, 4, 3} {
		round, ok := impl.TriRound(i + 1)
		wantNumber(t, "TriRound", round, ok, want)
	}
	round, ok := impl.TriRound(60)
	wantNumber(t, "TriRound", round, ok, 75)
	round, ok = impl.TriRound(59)
	wantNumber(t, "TriRound", round, ok, 80)
	for _, p := range noRounds() {
		round, ok := impl.TriRound(p)
		wantNoNumber(t, "TriRound", round, ok)
	}
}

// Promise 23.

func TestPromise23TriCountOddRound(t *testing.T) {
	for p := 1; p <= 57; p += 2 {
		if one, other := mustCount(t, p), mustCount(t, p+3); one != other {
			t.Errorf("TriCount of %d is %d, of %d it is %d", p, one, p+3, other)
		}
	}
}

// Promise 16.

func TestPromise16TriKind(t *testing.T) {
	for _, a := range allTriangles(lengthMax) {
		kind := mustKind(t, a)
		others := a[0]*a[0] + a[1]*a[1]
		if (kind == "r") != (a[2]*a[2] == others) || (kind == "o") != (a[2]*a[2] > others) || (kind == "a") != (a[2]*a[2] < others) {
			t.Errorf("TriKind of %v is %s", a, kind)
		}
		if a[2]*2 > lengthMax {
			continue
		}
		if twice := mustKind(t, times(a, 2)); twice != kind {
			t.Errorf("TriKind of %v is %s, of twice it %s", a, kind, twice)
		}
	}
}

func TestTriKindEdges(t *testing.T) {
	cases := []struct {
		triangle []int
		want     string
	}{
		{[]int{1, 1, 1}, "a"},
		{[]int{1, 2, 2}, "a"},
		{[]int{3, 4, 5}, "r"},
		{[]int{2, 3, 4}, "o"},
		{[]int{2, 2, 3}, "o"},
		{[]int{4, 4, 5}, "a"},
		{[]int{4, 5, 6}, "a"},
		{[]int{1, 60, 60}, "a"},
		{[]int{60, 60, 60}, "a"},
		{[]int{30, 31, 60}, "o"},
		{[]int{36, 48, 60}, "r"},
		{[]int{11, 59, 60}, "a"},
		{[]int{10, 59, 60}, "o"},
	}
	for _, c := range cases {
		kind, ok := impl.TriKind(c.triangle)
		wantWord(t, "TriKind", kind, ok, c.want)
	}
	for _, a := range noTriangles() {
		kind, ok := impl.TriKind(a)
		wantNoWord(t, "TriKind", kind, ok)
	}
}

// Promise 17.

func TestPromise17TriArea(t *testing.T) {
	for _, a := range allTriangles(lengthMax) {
		leave := a[0]*a[0] + a[1]*a[1] - a[2]*a[2]
		area := mustArea(t, a)
		if area <= 0 || area != 4*a[0]*a[0]*a[1]*a[1]-leave*leave {
			t.Errorf("TriArea of %v is %d", a, area)
		}
	}
}

func TestTriAreaEdges(t *testing.T) {
	cases := []struct {
		triangle []int
		want     int
	}{
		{[]int{1, 1, 1}, 3},
		{[]int{1, 2, 2}, 15},
		{[]int{2, 2, 3}, 63},
		{[]int{3, 4, 5}, 576},
		{[]int{1, 60, 60}, 14399},
		{[]int{60, 60, 60}, 38880000},
	}
	for _, c := range cases {
		area, ok := impl.TriArea(c.triangle)
		wantNumber(t, "TriArea", area, ok, c.want)
	}
	for _, a := range noTriangles() {
		area, ok := impl.TriArea(a)
		wantNoNumber(t, "TriArea", area, ok)
	}
}

// Promise 18.

func TestPromise18TriWhole(t *testing.T) {
	for p := 1; p <= 60; p++ {
		var want [][]int
		for _, a := range ofRound(p) {
			if root, ok := rootOf(mustArea(t, a)); ok && root%4 == 0 {
				want = append(want, a)
			}
		}
		whole, ok := impl.TriWhole(p)
		wantLists(t, "TriWhole", whole, ok, want)
		all, _ := impl.TriAll(p)
		for _, a := range whole {
			among := slices.ContainsFunc(all, func(b []int) bool { return slices.Equal(a, b) })
			if _, square := rootOf(mustArea(t, a)); !among || !square || sumOf(a)%2 != 0 {
				t.Errorf("TriWhole of %d has %v", p, a)
			}
		}
	}
}

func TestTriWholeEdges(t *testing.T) {
	cases := []struct {
		round int
		want  [][]int
	}{
		{1, nil},
		{2, nil},
		{3, nil},
		{4, nil},
		{6, nil},
		{11, nil},
		{12, [][]int{{3, 4, 5}}},
		{16, [][]int{{5, 5, 6}}},
		{18, [][]int{{5, 5, 8}}},
		{36, [][]int{{9, 10, 17}, {9, 12, 15}, {10, 10, 16}, {10, 13, 13}}},
		{42, [][]int{{7, 15, 20}, {13, 14, 15}}},
		{59, nil},
		{60, [][]int{{6, 25, 29}, {10, 24, 26}, {15, 20, 25}}},
	}
	for _, c := range cases {
		whole, ok := impl.TriWhole(c.round)
		wantLists(t, "TriWhole", whole, ok, c.want)
	}
	for _, p := range noRounds() {
		whole, ok := impl.TriWhole(p)
		wantNoLists(t, "TriWhole", whole, ok)
	}
}

// Promise 19.

func TestPromise19TriSame(t *testing.T) {
	all := slices.Concat(allTriangles(12), [][]int{{36, 48, 60}, {27, 36, 45}, {60, 60, 60}, {30, 31, 60}, {1, 60, 60}, {24, 36, 36}, {28, 42, 42}})
	for _, a := range all {
		for _, b := range all {
			want := a[0]*b[1] == a[1]*b[0] && a[0]*b[2] == a[2]*b[0]
			same := impl.TriSame(a, b)
			if same != want || same != impl.TriSame(b, a) {
				t.Errorf("TriSame of %v and %v is %v", a, b, same)
			}
			if same && mustKind(t, a) != mustKind(t, b) {
				t.Errorf("TriSame of %v and %v holds, TriKind is another", a, b)
			}
		}
	}
}

func TestTriSameEdges(t *testing.T) {
	cases := []struct {
		one, other []int
		want       bool
	}{
		{[]int{3, 4, 5}, []int{3, 4, 5}, true},
		{[]int{3, 4, 5}, []int{36, 48, 60}, true},
		{[]int{6, 8, 10}, []int{9, 12, 15}, true},
		{[]int{4, 6, 8}, []int{6, 9, 12}, true},
		{[]int{1, 1, 1}, []int{60, 60, 60}, true},
		{[]int{59, 60, 60}, []int{60, 60, 60}, false},
		{[]int{3, 4, 5}, []int{4, 5, 6}, false},
		{[]int{2, 4, 5}, []int{3, 4, 5}, false},
		{[]int{6, 8, 10}, []int{6, 8, 11}, false},
		{[]int{6, 8, 10}, []int{6, 9, 10}, false},
	}
	for _, c := range cases {
		if got := impl.TriSame(c.one, c.other); got != c.want {
			t.Errorf("TriSame of %v and %v is %v", c.one, c.other, got)
		}
	}
	good := []int{3, 4, 5}
	for _, a := range noTriangles() {
		if impl.TriSame(a, good) || impl.TriSame(good, a) || impl.TriSame(a, a) {
			t.Errorf("TriSame of %v holds", a)
		}
	}
	if impl.TriSame([]int{1, 1, 2}, []int{2, 2, 4}) || impl.TriSame(nil, nil) {
		t.Error("TriSame of no triangles holds")
	}
}

// Promise 20.

func TestPromise20TriInside(t *testing.T) {
	less := 1
	for n := 1; n <= 20; n++ {
		inside, ok := impl.TriInside(n)
		wantNumber(t, "TriInside", inside, ok, len(allTriangles(n)))
		if n >= 2 {
			wantNumber(t, "TriInside by that of one less", inside, ok, less+(n+1)*(n+1)/4)
		}
		less = inside
	}
}

func TestTriInsideEdges(t *testing.T) {
	for i, want := range []int{1, 3, 7, 13, 22, 34} {
		inside, ok := impl.TriInside(i + 1)
		wantNumber(t, "TriInside", inside, ok, want)
	}
	inside, ok := impl.TriInside(20)
	wantNumber(t, "TriInside", inside, ok, 825)
	for _, n := range []int{math.MinInt, -1, 0, 21, 60, math.MaxInt} {
		inside, ok := impl.TriInside(n)
		wantNoNumber(t, "TriInside", inside, ok)
	}
}

// Promise 21.

func TestPromise21TriGrow(t *testing.T) {
	for _, a := range allTriangles(lengthMax) {
		grown, ok := impl.TriGrow(a)
		if a[2] == lengthMax {
			wantNoList(t, "TriGrow", grown, ok)
			continue
		}
		wantList(t, "TriGrow", grown, ok, []int{a[0] + 1, a[1] + 1, a[2] + 1})
		if sumOf(grown) != sumOf(a)+3 || mustArea(t, grown) <= mustArea(t, a) {
			t.Errorf("TriGrow of %v is %v", a, grown)
		}
	}
}

func TestTriGrowEdges(t *testing.T) {
	cases := []struct{ triangle, want []int }{
		{[]int{1, 1, 1}, []int{2, 2, 2}},
		{[]int{3, 4, 5}, []int{4, 5, 6}},
		{[]int{1, 59, 59}, []int{2, 60, 60}},
		{[]int{59, 59, 59}, []int{60, 60, 60}},
	}
	for _, c := range cases {
		grown, ok := impl.TriGrow(c.triangle)
		wantList(t, "TriGrow", grown, ok, c.want)
	}
	for _, a := range slices.Concat(noTriangles(), [][]int{{1, 60, 60}, {2, 59, 60}, {60, 60, 60}}) {
		grown, ok := impl.TriGrow(a)
		wantNoList(t, "TriGrow", grown, ok)
	}
}

// Promise 22.

func TestPromise22TriHalf(t *testing.T) {
	for _, a := range allTriangles(lengthMax) {
		half, ok := impl.TriHalf(a)
		if sumOf(a)%2 != 0 {
			wantNoList(t, "TriHalf", half, ok)
			continue
		}
		if !ok || len(half) != 3 {
			t.Fatalf("TriHalf of %v returned %v, %v", a, half, ok)
		}
		wantList(t, "two of TriHalf together", []int{half[0] + half[1], half[0] + half[2], half[1] + half[2]}, ok, a)
		if half[0] < 1 || !slices.IsSorted(half) || sumOf(half)*2 != sumOf(a) {
			t.Errorf("TriHalf of %v is %v", a, half)
		}
	}
}

func TestTriHalfEdges(t *testing.T) {
	cases := []struct{ triangle, want []int }{
		{[]int{2, 2, 2}, []int{1, 1, 1}},
		{[]int{3, 4, 5}, []int{1, 2, 3}},
		{[]int{2, 3, 3}, []int{1, 1, 2}},
		{[]int{2, 60, 60}, []int{1, 1, 59}},
		{[]int{30, 32, 60}, []int{1, 29, 31}},
		{[]int{60, 60, 60}, []int{30, 30, 30}},
	}
	for _, c := range cases {
		half, ok := impl.TriHalf(c.triangle)
		wantList(t, "TriHalf", half, ok, c.want)
	}
	for _, a := range slices.Concat(noTriangles(), [][]int{{1, 1, 1}, {1, 2, 2}, {4, 5, 6}, {59, 60, 60}}) {
		half, ok := impl.TriHalf(a)
		wantNoList(t, "TriHalf", half, ok)
	}
}

// Invalid lists, for all functions that are told a triangle.

func TestTriLists(t *testing.T) {
	for _, a := range slices.Concat(someLists(), bundlesOf([]int{1, 2, 3, 5, 8, 59, 60}, 4)) {
		want := isTriangle(a)
		_, kind := impl.TriKind(a)
		area, areaOk := impl.TriArea(a)
		grown, grow := impl.TriGrow(a)
		half, halfOk := impl.TriHalf(a)
		if kind != want || areaOk != want || impl.TriSame(a, a) != want {
			t.Errorf("TriKind, TriArea or TriSame is wrong about %v", a)
		}
		if grow != (want && a[2] < lengthMax) || halfOk != (want && sumOf(a)%2 == 0) {
			t.Errorf("TriGrow or TriHalf is wrong about %v", a)
		}
		if !want && (area != 0 || len(grown) != 0 || len(half) != 0) {
			t.Errorf("what is made of %v is not nothing", a)
		}
	}
}

// The general rules: no argument changes, and no memory is shared.

func TestTriMemory(t *testing.T) {
	for _, a := range [][]int{nil, {5}, {3, 4, 5}, {5, 4, 3}, {6, 8, 10}, {2, 2, 2}, {60, 60, 60}, {3, 4, 5, 6}} {
		wantOwn(t, "TriGrow", a, func(a []int) []int { b, _ := impl.TriGrow(a); return b })
		wantOwn(t, "TriHalf", a, func(a []int) []int { b, _ := impl.TriHalf(a); return b })
		wantOwn(t, "the others", a, func(a []int) []int {
			impl.TriKind(a)
			impl.TriArea(a)
			impl.TriSame(a, []int{3, 4, 5})
			impl.TriSame([]int{3, 4, 5}, a)
			return nil
		})
	}
	for _, p := range []int{0, 1, 3, 12, 36, 59, 60} {
		wantOwnLists(t, "TriAll", func() [][]int { all, _ := impl.TriAll(p); return all })
		wantOwnLists(t, "TriWhole", func() [][]int { whole, _ := impl.TriWhole(p); return whole })
	}
}

func TestTriAgain(t *testing.T) {
	for _, p := range []int{60, 3, 60, 12, 1, 12} {
		all, ok := impl.TriAll(p)
		wantLists(t, "TriAll", all, ok, ofRound(p))
		count, ok := impl.TriCount(p)
		wantNumber(t, "TriCount", count, ok, len(ofRound(p)))
	}
	for _, n := range []int{20, 1, 20, 3} {
		inside, ok := impl.TriInside(n)
		wantNumber(t, "TriInside", inside, ok, len(allTriangles(n)))
	}
}
