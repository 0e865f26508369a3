package tests

import (
	"math"
	"slices"
	"testing"

	"loop.example/closingsticks/impl"
)

// polygons returns bundles of 1 to 9 sticks, and bundles that close just or just not.
func polygons() [][]int {
	return slices.Concat(someBundles(), [][]int{
		{20, 40, 60},
		{20, 40, 59},
		{1, 2, 57, 60},
		{1, 3, 57, 60},
		{1, 1, 2, 4, 8, 14, 30, 60},
		{1, 1, 2, 4, 8, 15, 30, 60},
		{1, 1, 1, 1, 1, 1, 1, 1, 8},
		{1, 1, 1, 1, 1, 1, 1, 1, 7},
		{1, 1, 1, 1, 1, 5, 10, 20, 40},
		{1, 2, 3, 4, 5, 15, 30, 60, 60},
	})
}

// shutsOf tells by the words of the document whether a list is a bundle that closes.
func shutsOf(a []int) bool {
	return isBundle(a) && len(a) >= 3 && a[len(a)-1] < sumOf(a[:len(a)-1])
}

// allShares returns all bundles of n sticks with the sum p, in the order of lists.
func allShares(n int, p int) [][]int {
	var all [][]int
	var grow func(b []int, least int, rest int)
	grow = func(b []int, least int, rest int) {
		if len(b) == n {
			if rest == 0 {
				all = append(all, slices.Clone(b))
			}
			return
		}
		for x := least; x <= rest; x++ {
			grow(append(slices.Clone(b), x), x, rest-x)
		}
	}
	grow(nil, 1, p)
	return all
}

// allPolygons returns all bundles of n sticks with the sum p that close, in the order of lists.
func allPolygons(n int, p int) [][]int {
	return slices.DeleteFunc(allShares(n, p), func(a []int) bool { return !shutsOf(a) })
}

// mostOf returns the greatest number of sticks of a bundle that close, of all choices.
func mostOf(a []int) int {
	most := 0
	for choice := range 1 << len(a) {
		var b []int
		for i, x := range a {
			if choice>>i&1 == 1 {
				b = append(b, x)
			}
		}
		if len(b) > most && shutsOf(b) {
			most = len(b)
		}
	}
	return most
}

// fixOf returns the least length with which a bundle closes, of all lengths.
func fixOf(a []int) int {
	for x := 1; x <= lengthMax; x++ {
		b := append(slices.Clone(a), x)
		slices.Sort(b)
		if shutsOf(b) {
			return x
		}
	}
	return 0
}

// noPairs returns numbers of sticks and sums of which no polygons are told.
func noPairs() [][2]int {
	var all [][2]int
	for _, n := range []int{math.MinInt, -3, -1, 0, 1, 2, 7, 8, 9, math.MaxInt} {
		for _, p := range []int{1, 3, 8, 30} {
			all = append(all, [2]int{n, p})
		}
	}
	for n := 2; n <= 7; n++ {
		for _, p := range []int{math.MinInt, -30, -1, 0, 31, 32, 60, math.MaxInt} {
			all = append(all, [2]int{n, p})
		}
	}
	return all
}

// Promise 24.

func TestPromise24PolyCloses(t *testing.T) {
	for _, a := range slices.Concat(polygons(), someLists(), noBundles()) {
		got := impl.PolyCloses(a)
		if got != shutsOf(a) {
			t.Errorf("PolyCloses of %v returned %v", a, got)
		}
		if !got {
			continue
		}
		if gap, ok := impl.PolyGap(a); !ok || gap <= 0 {
			t.Errorf("PolyCloses of %v holds, PolyGap is %d, %v", a, gap, ok)
		}
		more, ok := impl.StickPut(a, a[len(a)-1])
		if ok != (len(a) < sticksMax) || ok && !impl.PolyCloses(more) {
			t.Errorf("PolyCloses of %v holds, but not with the greatest length more", a)
		}
	}
}

func TestPolyClosesEdges(t *testing.T) {
	closing := [][]int{
		{1, 1, 1}, {60, 60, 60}, {3, 4, 5}, {1, 60, 60}, {30, 31, 60},
		{1, 1, 1, 2}, {1, 1, 2, 3}, {20, 20, 21, 60},
		{1, 1, 1, 1, 1, 1, 1, 1, 7}, {60, 60, 60, 60, 60, 60, 60, 60, 60},
	}
	for _, a := range closing {
		if !impl.PolyCloses(a) {
			t.Errorf("PolyCloses of %v does not hold", a)
		}
	}
	open := [][]int{
		{1}, {60}, {1, 1}, {1, 2}, {60, 60}, {59, 60},
		{1, 1, 2}, {1, 1, 3}, {1, 2, 3}, {30, 30, 60}, {1, 1, 60},
		{1, 1, 1, 3}, {20, 20, 20, 60}, {1, 1, 1, 1, 1, 1, 1, 1, 8},
		{4, 3, 5}, {5, 4, 3}, {0, 5, 5}, {-1, 5, 5}, {60, 60, 61},
		{math.MaxInt, math.MaxInt, math.MaxInt}, {math.MinInt, 1, 1},
	}
	for _, a := range slices.Concat(open, noBundles()) {
		if impl.PolyCloses(a) {
			t.Errorf("PolyCloses of %v holds", a)
		}
	}
}

// Promise 25.

func TestPromise25PolyGap(t *testing.T) {
	for _, a := range slices.Concat(polygons(), someLists(), noBundles()) {
		gap, ok := impl.PolyGap(a)
		if !isBundle(a) {
			wantNoNumber(t, "PolyGap", gap, ok)
			continue
		}
		sum, _ := impl.StickSum(a)
		wantNumber(t, "PolyGap", gap, ok, sum-2*a[len(a)-1])
		if len(a) >= 3 && (gap > 0) != impl.PolyCloses(a) {
			t.Errorf("PolyGap of %v is %d, PolyCloses is %v", a, gap, gap <= 0)
		}
		if len(a) < 3 && gap > 0 {
			t.Errorf("PolyGap of %v is %d", a, gap)
		}
	}
}

func TestPolyGapEdges(t *testing.T) {
	cases := []struct {
		bundle []int
		want   int
	}{
		{[]int{1}, -1},
		{[]int{60}, -60},
		{[]int{1, 1}, 0},
		{[]int{60, 60}, 0},
		{[]int{2, 7}, -5},
		{[]int{1, 60}, -59},
		{[]int{1, 2, 3}, 0},
		{[]int{3, 4, 5}, 2},
		{[]int{1, 1, 60}, -58},
		{[]int{60, 60, 60}, 60},
		{[]int{60, 60, 60, 60, 60, 60, 60, 60, 60}, 420},
	}
	for _, c := range cases {
		gap, ok := impl.PolyGap(c.bundle)
		wantNumber(t, "PolyGap", gap, ok, c.want)
	}
	for _, a := range noBundles() {
		gap, ok := impl.PolyGap(a)
		wantNoNumber(t, "PolyGap", gap, ok)
	}
}

// Promise 26.

func TestPromise26PolyCount(t *testing.T) {
	for n := 3; n <= 6; n++ {
		for p := 1; p <= 30; p++ {
			count, ok := impl.PolyCount(n, p)
			wantNumber(t, "PolyCount", count, ok, len(allPolygons(n, p)))
			rest, ok := impl.PolyRest(n, p)
			wantNumber(t, "PolyRest as PolyCount", rest, ok, count)
			if n > 3 {
				continue
			}
			triangles, ok := impl.TriCount(p)
			wantNumber(t, "TriCount as PolyCount", triangles, ok, count)
		}
	}
}

// countCases are numbers of polygons, counted by hand but for the last ones.
func countCases() [][3]int {
	return [][3]int{
		{3, 1, 0}, {3, 2, 0}, {3, 3, 1}, {3, 4, 0}, {3, 5, 1}, {3, 6, 1}, {3, 7, 2}, {3, 12, 3},
		{4, 3, 0}, {4, 4, 1}, {4, 5, 1}, {4, 6, 1}, {4, 7, 2}, {4, 8, 3},
		{5, 4, 0}, {5, 5, 1}, {5, 6, 1}, {5, 7, 2},
		{6, 1, 0}, {6, 5, 0}, {6, 6, 1}, {6, 7, 1}, {6, 8, 2},
		{3, 30, 19}, {6, 30, 419},
	}
}

func TestPolyCountEdges(t *testing.T) {
	for _, c := range countCases() {
		count, ok := impl.PolyCount(c[0], c[1])
		wantNumber(t, "PolyCount", count, ok, c[2])
	}
	for _, c := range noPairs() {
		count, ok := impl.PolyCount(c[0], c[1])
		wantNoNumber(t, "PolyCount", count, ok)
	}
}

// Promise 27.

func TestPromise27PolyRest(t *testing.T) {
	for n := 3; n <= 6; n++ {
		for p := 1; p <= 30; p++ {
			rest, ok := impl.PolyRest(n, p)
			wantNumber(t, "PolyRest", rest, ok, len(allPolygons(n, p)))
			if all, ok := impl.PolyShares(n, p); !ok || rest > all {
				t.Errorf("PolyRest of %d and %d is %d, PolyShares %d, %v", n, p, rest, all, ok)
			}
			if (rest > 0) != (p >= n && !(n == 3 && p == 4)) || rest < 0 {
				t.Errorf("PolyRest of %d and %d is %d", n, p, rest)
			}
		}
	}
}

func TestPolyRestEdges(t *testing.T) {
	for _, c := range countCases() {
		rest, ok := impl.PolyRest(c[0], c[1])
		wantNumber(t, "PolyRest", rest, ok, c[2])
	}
	for _, c := range noPairs() {
		rest, ok := impl.PolyRest(c[0], c[1])
		wantNoNumber(t, "PolyRest", rest, ok)
	}
}

// Promise 28.

func TestPromise28PolyFirst(t *testing.T) {
	for n := 3; n <= 6; n++ {
		for p := 1; p <= 30; p++ {
			first, ok := impl.PolyFirst(n, p)
			all := allPolygons(n, p)
			if len(all) == 0 {
				wantNoList(t, "PolyFirst", first, ok)
				continue
			}
			wantList(t, "PolyFirst", first, ok, all[0])
			if !impl.PolyCloses(first) || len(first) != n || sumOf(first) != p {
				t.Errorf("PolyFirst of %d and %d is %v", n, p, first)
			}
			if count, ok := impl.PolyCount(n, p); !ok || count < 1 {
				t.Errorf("PolyFirst of %d and %d succeeds, PolyCount is %d, %v", n, p, count, ok)
			}
		}
	}
}

func TestPolyFirstEdges(t *testing.T) {
	cases := []struct {
		n, p int
		want []int
	}{
		{3, 3, []int{1, 1, 1}},
		{3, 5, []int{1, 2, 2}},
		{3, 8, []int{2, 3, 3}},
		{3, 30, []int{2, 14, 14}},
		{4, 4, []int{1, 1, 1, 1}},
		{4, 8, []int{1, 1, 3, 3}},
		{5, 6, []int{1, 1, 1, 1, 2}},
		{6, 6, []int{1, 1, 1, 1, 1, 1}},
		{6, 30, []int{1, 1, 1, 1, 12, 14}},
	}
	for _, c := range cases {
		first, ok := impl.PolyFirst(c.n, c.p)
		wantList(t, "PolyFirst", first, ok, c.want)
	}
	for _, c := range append(noPairs(), [][2]int{{3, 1}, {3, 2}, {3, 4}, {4, 3}, {5, 4}, {6, 1}, {6, 5}}...) {
		first, ok := impl.PolyFirst(c[0], c[1])
		wantNoList(t, "PolyFirst", first, ok)
	}
}

// Promise 29.

func TestPromise29PolyShares(t *testing.T) {
	for n := 1; n <= 6; n++ {
		for p := 0; p <= 30; p++ {
			all, ok := impl.PolyShares(n, p)
			wantNumber(t, "PolyShares", all, ok, len(allShares(n, p)))
			if n == 1 || p < n {
				continue
			}
			one, okOne := impl.PolyShares(n-1, p-1)
			less, okLess := impl.PolyShares(n, p-n)
			wantNumber(t, "PolyShares by those of less", one+less, okOne && okLess, all)
		}
	}
}

func TestPolySharesEdges(t *testing.T) {
	for n := 1; n <= 6; n++ {
		none, ok := impl.PolyShares(n, 0)
		wantNumber(t, "PolyShares of no sum", none, ok, 0)
		few, ok := impl.PolyShares(n, n-1)
		wantNumber(t, "PolyShares of less than the sticks", few, ok, 0)
		one, ok := impl.PolyShares(n, n)
		wantNumber(t, "PolyShares of sticks of 1", one, ok, 1)
	}
	for _, c := range [][3]int{{1, 1, 1}, {1, 30, 1}, {2, 2, 1}, {2, 3, 1}, {2, 4, 2}, {2, 30, 15}, {3, 6, 3}, {3, 30, 75}, {4, 8, 5}, {6, 30, 532}} {
		all, ok := impl.PolyShares(c[0], c[1])
		wantNumber(t, "PolyShares", all, ok, c[2])
	}
	for _, n := range []int{math.MinInt, -1, 0, 7, 9, math.MaxInt} {
		for _, p := range []int{0, 1, 7, 30} {
			all, ok := impl.PolyShares(n, p)
			wantNoNumber(t, "PolyShares", all, ok)
		}
	}
	for n := 1; n <= 6; n++ {
		for _, p := range []int{math.MinInt, -30, -1, 31, 60, math.MaxInt} {
			all, ok := impl.PolyShares(n, p)
			wantNoNumber(t, "PolyShares", all, ok)
		}
	}
}

// Promise 30.

func TestPromise30PolyMost(t *testing.T) {
	for _, a := range slices.Concat(polygons(), someLists(), noBundles()) {
		most, ok := impl.PolyMost(a)
		if !isBundle(a) {
			wantNoNumber(t, "PolyMost", most, ok)
			continue
		}
		wantNumber(t, "PolyMost", most, ok, mostOf(a))
		if (most == len(a)) != impl.PolyCloses(a) || most != 0 && most < 3 {
			t.Errorf("PolyMost of %v is %d", a, most)
		}
		if many, _ := impl.StickMany(a); many != 0 && most == 0 {
			t.Errorf("PolyMost of %v is 0, StickMany %d", a, many)
		}
	}
}

// mostCases are bundles and the greatest numbers of their sticks that close.
func mostCases() []struct {
	bundle []int
	want   int
} {
	return []struct {
		bundle []int
		want   int
	}{
		{[]int{1}, 0},
		{[]int{60}, 0},
		{[]int{1, 1}, 0},
		{[]int{60, 60}, 0},
		{[]int{1, 60}, 0},
		{[]int{1, 2, 3}, 0},
		{[]int{3, 4, 5}, 3},
		{[]int{1, 1, 1, 3}, 3},
		{[]int{1, 1, 2, 3}, 4},
		{[]int{1, 1, 2, 4}, 0},
		{[]int{1, 5, 5, 60}, 3},
		{[]int{1, 1, 2, 4, 8, 16, 32, 60}, 8},
		{[]int{1, 1, 2, 4, 8, 14, 30, 60}, 6},
		{[]int{1, 1, 2, 4, 8, 16, 32}, 0},
		{[]int{1, 1, 1, 1, 1, 1, 1, 1, 60}, 8},
		{[]int{1, 1, 1, 1, 1, 5, 10, 20, 40}, 5},
		{[]int{1, 2, 3, 4, 5, 15, 30, 60, 60}, 9},
		{[]int{60, 60, 60, 60, 60, 60, 60, 60, 60}, 9},
	}
}

func TestPolyMostEdges(t *testing.T) {
	for _, c := range mostCases() {
		most, ok := impl.PolyMost(c.bundle)
		wantNumber(t, "PolyMost", most, ok, c.want)
	}
	for _, a := range noBundles() {
		most, ok := impl.PolyMost(a)
		wantNoNumber(t, "PolyMost", most, ok)
	}
}

// Promise 31.

func TestPromise31PolyParts(t *testing.T) {
	for _, a := range slices.Concat(polygons(), someLists(), noBundles()) {
		parts, ok := impl.PolyParts(a)
		most, okMost := impl.PolyMost(a)
		if most == 0 {
			wantNoList(t, "PolyParts", parts, ok)
			continue
		}
		wantList(t, "PolyParts", parts, ok && okMost, a[:most])
		if !impl.PolyCloses(parts) {
			t.Errorf("PolyParts of %v is %v, and does not close", a, parts)
		}
	}
}

func TestPolyPartsEdges(t *testing.T) {
	for _, c := range mostCases() {
		parts, ok := impl.PolyParts(c.bundle)
		if c.want == 0 {
			wantNoList(t, "PolyParts", parts, ok)
			continue
		}
		wantList(t, "PolyParts", parts, ok, c.bundle[:c.want])
	}
	for _, a := range noBundles() {
		parts, ok := impl.PolyParts(a)
		wantNoList(t, "PolyParts", parts, ok)
	}
}

// Promise 32.

func TestPromise32PolyFix(t *testing.T) {
	for _, a := range slices.Concat(polygons(), someLists(), noBundles()) {
		fix, ok := impl.PolyFix(a)
		if !isBundle(a) || len(a) == 1 || len(a) == sticksMax {
			wantNoNumber(t, "PolyFix", fix, ok)
			continue
		}
		wantNumber(t, "PolyFix", fix, ok, fixOf(a))
		if more, ok := impl.StickPut(a, fix); !ok || !impl.PolyCloses(more) {
			t.Errorf("PolyFix of %v is %d, and does not close", a, fix)
		}
		if fix == 1 {
			continue
		}
		if less, ok := impl.StickPut(a, fix-1); !ok || impl.PolyCloses(less) {
			t.Errorf("PolyFix of %v is %d, and one less closes", a, fix)
		}
	}
}

func TestPolyFixEdges(t *testing.T) {
	cases := []struct {
		bundle []int
		want   int
	}{
		{[]int{1, 1}, 1},
		{[]int{60, 60}, 1},
		{[]int{1, 2}, 2},
		{[]int{2, 7}, 6},
		{[]int{1, 60}, 60},
		{[]int{59, 60}, 2},
		{[]int{1, 2, 3}, 1},
		{[]int{1, 1, 3}, 2},
		{[]int{3, 4, 5}, 1},
		{[]int{1, 1, 60}, 59},
		{[]int{1, 1, 1, 1, 1, 1, 1, 60}, 54},
		{[]int{60, 60, 60, 60, 60, 60, 60, 60}, 1},
	}
	for _, c := range cases {
		fix, ok := impl.PolyFix(c.bundle)
		wantNumber(t, "PolyFix", fix, ok, c.want)
	}
	nine := [][]int{{1, 1, 1, 1, 1, 1, 1, 1, 1}, {1, 1, 1, 1, 1, 1, 1, 1, 60}, {60, 60, 60, 60, 60, 60, 60, 60, 60}}
	for _, a := range slices.Concat(noBundles(), nine, [][]int{{1}, {7}, {60}}) {
		fix, ok := impl.PolyFix(a)
		wantNoNumber(t, "PolyFix", fix, ok)
	}
}

// The general rules: no argument changes, no memory is shared, and no state is kept.

func TestPolyMemory(t *testing.T) {
	for _, a := range [][]int{nil, {5}, {4, 4}, {3, 4, 5}, {5, 4, 3}, {1, 5, 5, 60}, {1, 1, 2, 3}, {1, 1, 1, 1, 1, 1, 1, 1, 60}} {
		wantOwn(t, "PolyParts", a, func(a []int) []int { b, _ := impl.PolyParts(a); return b })
		wantOwn(t, "the others", a, func(a []int) []int {
			impl.PolyCloses(a)
			impl.PolyGap(a)
			impl.PolyMost(a)
			impl.PolyFix(a)
			return nil
		})
	}
	for _, c := range [][2]int{{3, 3}, {3, 4}, {4, 8}, {6, 30}} {
		wantOwn(t, "PolyFirst", nil, func([]int) []int { b, _ := impl.PolyFirst(c[0], c[1]); return b })
	}
}

func TestPolyAgain(t *testing.T) {
	for _, c := range [][2]int{{6, 30}, {3, 3}, {6, 30}, {4, 8}, {5, 29}, {3, 30}, {4, 8}} {
		want := allPolygons(c[0], c[1])
		count, ok := impl.PolyCount(c[0], c[1])
		wantNumber(t, "PolyCount", count, ok, len(want))
		rest, ok := impl.PolyRest(c[0], c[1])
		wantNumber(t, "PolyRest", rest, ok, len(want))
		first, ok := impl.PolyFirst(c[0], c[1])
		wantList(t, "PolyFirst", first, ok, want[0])
	}
}
